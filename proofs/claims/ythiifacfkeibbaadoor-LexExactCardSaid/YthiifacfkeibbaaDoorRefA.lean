/- Walks: the page's own answers: lower, digit, part, Key, Name. -/
import Derived.Test.YthiifacfkeibbaaDoorLexB
namespace Go.Proofs.YthiifacfkeibbaaDoor
open Go Go.RowKit
open Go.Proofs

set_option maxHeartbeats 400000 in
theorem rlower_any (c : Int) (w : World) :
    Calls Tryd.prog 24 #[.int .u8 c] w fun e w' => e = .returned (.bool (Wd.lowI c)) ∧ w = w' := by
  by_cases h1 : 97 ≤ c <;> by_cases h2 : c ≤ 122 <;> go_enter Tryd.func24, Tryd.ntmps24 <;> go_wp2 <;> go_ret <;> exact ⟨ret_bool (by simp [Wd.lowI]; omega), rfl⟩
def digI (c : Int) : Bool := decide (48 ≤ c) && decide (c ≤ 57)
set_option maxHeartbeats 400000 in
theorem rdigit_any (c : Int) (w : World) :
    Calls Tryd.prog 36 #[.int .u8 c] w fun e w' => e = .returned (.bool (digI c)) ∧ w = w' := by
  by_cases h1 : 48 ≤ c <;> by_cases h2 : c ≤ 57 <;> go_enter Tryd.func36, Tryd.ntmps36 <;> go_wp2 <;> go_ret <;> exact ⟨ret_bool (by simp [digI]; omega), rfl⟩
set_option maxHeartbeats 1000000 in
theorem rpart_any (c : Int) (w : World) :
    Calls Tryd.prog 25 #[.int .u8 c] w fun e w' => e = .returned (.bool (Wd.partI c)) ∧ w = w' := by
  cases h1 : Wd.lowI c <;> cases h2 : digI c <;> cases h3 : (c == 95) <;> cases h4 : (c == 39) <;> go_enter Tryd.func25, Tryd.ntmps25 <;> go_wp2_with (first | (go_at_call 24; refine (rlower_any _ _).mono ?_; rintro e w' ⟨rfl, rfl⟩) | (go_at_call 36; refine (rdigit_any _ _).mono ?_; rintro e w' ⟨rfl, rfl⟩))
  all_goals go_ret
  all_goals refine ⟨ret_bool ?_, rfl⟩
  all_goals (rw [Bool.eq_iff_iff]; simp [Wd.partI, *]; try (simp [digI] at h2; omega))

theorem key_all (l : List UInt8) (h : Wd.key l = true) : l.all Wd.low = true ∧ l ≠ [] := by
  have hm : l ∈ Wd.keys := by simpa [Wd.key] using h
  have hall : ∀ k ∈ Wd.keys, k.all Wd.low = true ∧ k ≠ [] := by decide +kernel
  exact hall l hm

def words : List UInt8 := [32, 108, 101, 116, 32, 114, 101, 99, 32, 105, 110, 32, 102, 117, 110, 32, 105, 102, 32, 116, 104, 101, 110, 32, 101, 108, 115, 101, 32, 109, 97, 116, 99, 104, 32, 119, 105, 116, 104, 32, 101, 110, 100, 32, 116, 114, 117, 101, 32, 102, 97, 108, 115, 101, 32, 105, 110, 116, 32, 98, 111, 111, 108, 32, 115, 116, 114, 105, 110, 103, 32, 117, 110, 105, 116, 32, 108, 105, 115, 116, 32]
def seg (i n : Nat) : List UInt8 := (words.drop i).take n
/-- What stands between two blanks, of small letters alone, is a key word. -/
theorem seg_key : ∀ i : Fin 82, ∀ n : Fin 82, (seg i.val (n.val + 2)).head? = some 32 → (seg i.val (n.val + 2)).getLast? = some 32 → ((seg i.val (n.val + 2)).drop 1).dropLast.all Wd.low = true → ((seg i.val (n.val + 2)).drop 1).dropLast ≠ [] → Wd.key ((seg i.val (n.val + 2)).drop 1).dropLast = true := by decide +kernel
/-- Each key word stands there. -/
theorem key_seg : ∀ k ∈ Wd.keys, ∃ i : Fin 82, i.val + (k.length + 2) ≤ 81 ∧ seg i.val (k.length + 2) = 32 :: k ++ [32] := by decide +kernel

theorem words_hit (l : List UInt8) (j : Nat) (hj : j < 82) (hl : l.length < 82) (h0 : l ≠ []) (hall : l.all Wd.low = true) (h : seg j (l.length + 2) = 32 :: l ++ [32]) : Wd.key l = true := by
  have := seg_key ⟨j, hj⟩ ⟨l.length, hl⟩
  simp only [h] at this
  have e : ((32 :: l ++ [32]).drop 1).dropLast = l := by simp
  rw [e] at this
  exact this (by simp) (List.getLast?_eq_some_iff.2 ⟨32 :: l, rfl⟩) hall h0
theorem cmp_eq (l : List UInt8) (j : Nat) : (({ data := words.toArray } : ByteArray).extract j (j + (1 + l.length + 1))).toList = seg j (l.length + 2) := by
  rw [Lib.extract_toList]
  simp only [seg]
  congr 1
  omega
theorem txt_eq (l : List UInt8) : (({ data := #[32] } : ByteArray) ++ { data := l.toArray } ++ { data := #[32] }).toList = 32 :: l ++ [32] := by
  rw [ByteArray.toList_eq]; simp

set_option maxRecDepth 100000 in
set_option maxHeartbeats 1000000 in
theorem rkey_any (l : List UInt8) (hl : l.length ≤ 20000) (w : World) :
    Calls Tryd.prog 15 #[.string ⟨l.toArray⟩] w fun e w' => e = .returned (.bool (Wd.key l)) ∧ w = w' := by
  have hix := idx l
  have HIX := Lib.hid hix; clear hix
  go_enter Tryd.func15, Tryd.ntmps15
  go_wp2_with fail
  go_loop [3] (fun i => ∃ k : Nat, k ≤ l.length ∧ i = .int .i64 k ∧ (l.take k).all Wd.low = true) (fun i => l.length - (intOf i).toNat)
  case atStart => exact ⟨0, Nat.zero_le _, rfl, by simp⟩
  case round =>
    obtain ⟨k, hk, rfl, hall⟩ := hrel
    have HA := Lib.hid hall; clear hall
    by_cases hlt : k < l.length
    · have hi := HIX.out k hlt
      by_cases hq : Wd.lowI ((l[k]).toNat : Int) = true
      · have hs1 : (l.take (k + 1)).all Wd.low = true := by
          rw [List.take_succ_eq_append_getElem hlt, List.all_append, HA.out]; simp [Wd.low, hq]
        have HS := Lib.hid hs1; clear hs1
        go_wp2_with (go_at_call 24; refine (rlower_any _ _).mono ?_; rintro e w' ⟨rfl, rfl⟩)
        go_round
        case rel => exact ⟨k + 1, by omega, by go_num, HS.out⟩
        case measure => simp [intOf]; omega
      · have hq' : Wd.lowI ((l[k]).toNat : Int) = false := by simpa using hq
        have hno : Wd.key l = false := by
          cases hk : Wd.key l with
          | false => rfl
          | true =>
            have := List.all_eq_true.1 (key_all l hk).1 l[k] (List.getElem_mem hlt)
            rw [show Wd.low l[k] = Wd.lowI ((l[k]).toNat : Int) from rfl, hq'] at this; cases this
        have HN := Lib.hid hno; clear hno hq
        go_wp2_with (go_at_call 24; refine (rlower_any _ _).mono ?_; rintro e w' ⟨rfl, rfl⟩)
        go_ret
        exact ⟨ret_bool HN.out.symm, rfl⟩
    · have hall : l.all Wd.low = true := by
        have := HA.out
        rwa [List.take_of_length_le (by omega)] at this
      have HALL := Lib.hid hall; clear hall HA
      go_wp2_with fail
      go_loop [5] (fun i => ∃ j : Nat, j ≤ 100 ∧ i = .int .i64 j ∧ ∀ q, q < j → l ≠ [] → q + (l.length + 2) ≤ 81 → seg q (l.length + 2) ≠ 32 :: l ++ [32]) (fun i => 100 - (intOf i).toNat)
      case atStart => exact ⟨0, by omega, rfl, fun q hq => absurd hq (by omega)⟩
      case round =>
        obtain ⟨j, hj, rfl, hnot⟩ := hrel
        have HNOT := Lib.hid hnot; clear hnot
        by_cases hj2 : (j : Int) + (1 + (l.length : Int) + 1) ≤ 81
        · by_cases h0 : 0 < l.length
          · have hne : l ≠ [] := List.length_pos_iff.1 h0
            have HNE := Lib.hid hne; clear hne
            by_cases hseg : seg j (l.length + 2) = 32 :: l ++ [32]
            · have hkey := words_hit l j (by omega) (by omega) HNE.out HALL.out hseg
              have HK := Lib.hid hkey
              have hcmp : ((({ data := words.toArray } : ByteArray).extract j (j + (1 + l.length + 1))).toList == (({ data := #[32] } : ByteArray) ++ { data := l.toArray } ++ { data := #[32] }).toList) = true := by
                rw [cmp_eq, txt_eq, hseg]; simp
              unfold words at hcmp
              clear hkey hseg
              go_wp2_with fail
              all_goals first | (go_ret; exact ⟨ret_bool HK.out.symm, rfl⟩) | (exfalso; simp_all; done)
            · have hcmp : ((({ data := words.toArray } : ByteArray).extract j (j + (1 + l.length + 1))).toList == (({ data := #[32] } : ByteArray) ++ { data := l.toArray } ++ { data := #[32] }).toList) = false := by
                rw [cmp_eq, txt_eq, beq_eq_false_iff_ne]; exact hseg
              unfold words at hcmp
              have HSEG := Lib.hid hseg; clear hseg
              go_wp2_with fail
              go_round
              case rel =>
                refine ⟨j + 1, by omega, by go_num, fun q hq h1 h2 => ?_⟩
                by_cases e : q = j
                · rw [e]; exact HSEG.out
                · exact HNOT.out q (by omega) h1 h2
              case measure => simp [intOf]; omega
          · have hz : l.length = 0 := by omega
            have hnil : l = [] := List.eq_nil_of_length_eq_zero hz
            have HNIL := Lib.hid hnil; clear hnil hz
            go_wp2_with fail
            go_round
            case rel => exact ⟨j + 1, by omega, by go_num, fun q hq h1 h2 => absurd HNIL.out h1⟩
            case measure => simp [intOf]; omega
        · have hkey : Wd.key l = false := by
            cases hk : Wd.key l with
            | false => rfl
            | true =>
              have hm : l ∈ Wd.keys := by simpa [Wd.key] using hk
              obtain ⟨i, hi1, hi2⟩ := key_seg l hm
              exact absurd hi2 (HNOT.out i.val (by omega) (key_all l hk).2 hi1)
          have HK := Lib.hid hkey; clear hkey
          go_wp2_with fail
          go_ret
          exact ⟨ret_bool HK.out.symm, rfl⟩

set_option maxHeartbeats 1000000 in
theorem rname_any (l : List UInt8) (hl : l.length ≤ 20000) (w : World) :
    Calls Tryd.prog 16 #[.string ⟨l.toArray⟩] w fun e w' => e = .returned (.bool (Wd.name l)) ∧ w = w' := by
  have hix := idx l
  have HIX := Lib.hid hix; clear hix
  have hk := rkey_any l (by omega)
  have HK := Lib.hid hk; clear hk
  by_cases h0 : l.length = 0
  · have hnil : l = [] := List.eq_nil_of_length_eq_zero h0
    have hn : Wd.name l = false := by rw [hnil]; rfl
    have HN := Lib.hid hn; clear hn hnil
    have hle : l.length ≤ 0 := by omega
    clear h0
    go_enter Tryd.func16, Tryd.ntmps16
    go_wp2_with fail
    go_ret
    exact ⟨ret_bool HN.out.symm, rfl⟩
  have hp : 0 < l.length := by omega
  have hn := Wd.name_of l hp
  by_cases h1 : 32 < l.length
  · have hn2 : Wd.name l = false := by rw [hn, decide_eq_false (by omega)]; rfl
    have HN := Lib.hid hn2; clear hn2 hn h0
    go_enter Tryd.func16, Tryd.ntmps16
    go_wp2_with fail
    go_ret
    exact ⟨ret_bool HN.out.symm, rfl⟩
  have hle : l.length ≤ 32 := by omega
  rw [decide_eq_true hle] at hn
  have hi0 := HIX.out 0 hp
  by_cases h2 : Wd.lowI ((l[0]).toNat : Int) = true
  · have hn2 : Wd.name l = (l.all Wd.part && !Wd.key l) := by
      rw [hn, show Wd.low l[0] = true from h2]
      have e : l.all Wd.part = (Wd.part l[0] && (l.drop 1).all Wd.part) := by
        cases l with
        | nil => simp at hp
        | cons a r => simp
      rw [e, show Wd.part l[0] = true from by simp [Wd.part, Wd.partI, h2]]; simp
    have HN := Lib.hid hn2; clear hn hn2 h0 h1
    have hi0' : ∀ w : World, (Instr.index 9 (.string ⟨l.toArray⟩) (.int .i64 0)).run Tryd.prog w = .ok (.int .u8 ((l[0]).toNat : Int)) w := hi0
    clear hi0
    go_enter Tryd.func16, Tryd.ntmps16
    go_wp2_with (go_at_call 24; refine (rlower_any _ _).mono ?_; rintro e w' ⟨rfl, rfl⟩)
    clear hi0'
    go_loop [3] (fun i => ∃ k : Nat, k ≤ l.length ∧ i = .int .i64 k ∧ (l.take k).all Wd.part = true) (fun i => l.length - (intOf i).toNat)
    case atStart => exact ⟨0, Nat.zero_le _, rfl, by simp⟩
    case round =>
      obtain ⟨k, hk, rfl, hall⟩ := hrel
      have HA := Lib.hid hall; clear hall
      by_cases hlt : k < l.length
      · have hi := HIX.out k hlt
        by_cases hq : Wd.partI ((l[k]).toNat : Int) = true
        · have hs1 : (l.take (k + 1)).all Wd.part = true := by
            rw [List.take_succ_eq_append_getElem hlt, List.all_append, HA.out]; simp [Wd.part, hq]
          have HS := Lib.hid hs1; clear hs1
          go_wp2_with (go_at_call 25; refine (rpart_any _ _).mono ?_; rintro e w' ⟨rfl, rfl⟩)
          go_round
          case rel => exact ⟨k + 1, by omega, by go_num, HS.out⟩
          case measure => simp [intOf]; omega
        · have hq' : Wd.partI ((l[k]).toNat : Int) = false := by simpa using hq
          have hno : Wd.name l = false := by
            rw [HN.out]
            have : l.all Wd.part = false := by
              rw [List.all_eq_false]; exact ⟨l[k], List.getElem_mem hlt, by rw [show Wd.part l[k] = Wd.partI ((l[k]).toNat : Int) from rfl, hq']; decide⟩
            rw [this]; rfl
          have HF := Lib.hid hno; clear hno hq
          go_wp2_with (go_at_call 25; refine (rpart_any _ _).mono ?_; rintro e w' ⟨rfl, rfl⟩)
          go_ret
          exact ⟨ret_bool HF.out.symm, rfl⟩
      · have hfin : Wd.name l = !Wd.key l := by
          rw [HN.out]
          have h := HA.out
          rw [List.take_of_length_le (by omega)] at h
          rw [h]; simp
        have HF := Lib.hid hfin; clear hfin
        go_wp2_with (go_at_call 15; refine (HK.out _).mono ?_; rintro e w' ⟨rfl, rfl⟩)
        go_ret
        exact ⟨ret_bool HF.out.symm, rfl⟩
  · have h2' : Wd.lowI ((l[0]).toNat : Int) = false := by simpa using h2
    have hn2 : Wd.name l = false := by
      rw [hn, show Wd.low l[0] = false from h2']; rfl
    have HN := Lib.hid hn2; clear hn hn2 h0 h1 h2
    have hi0' : ∀ w : World, (Instr.index 9 (.string ⟨l.toArray⟩) (.int .i64 0)).run Tryd.prog w = .ok (.int .u8 ((l[0]).toNat : Int)) w := hi0
    clear hi0
    go_enter Tryd.func16, Tryd.ntmps16
    go_wp2_with (go_at_call 24; refine (rlower_any _ _).mono ?_; rintro e w' ⟨rfl, rfl⟩)
    go_ret
    exact ⟨ret_bool HN.out.symm, rfl⟩
theorem ba_ext2 {a b : ByteArray} (h : a.data.toList = b.data.toList) : a = b := by
  cases a; cases b; congr 1; exact Array.toList_inj.1 h

/-! ### Literals -/
theorem hexAt_ok : ∀ k : Fin 16, 48 ≤ (Wd.hexAt k.val).toNat ∧ (Wd.hexAt k.val).toNat ≤ 102 := by decide +kernel
theorem qb_mem (c d : UInt8) (h : d ∈ Wd.qb c) : 32 ≤ d.toNat ∧ d.toNat ≤ 126 ∧ d.toNat ≠ 34 := by
  cases hp : Wd.plain c
  · rw [Wd.qb_hex hp] at h
    have hlt := c.toNat_lt
    simp only [List.mem_cons, List.not_mem_nil, or_false] at h
    rcases h with rfl | rfl | rfl
    · exact ⟨by decide, by decide, by decide⟩
    · have := hexAt_ok ⟨c.toNat / 16, by omega⟩; simp only [] at this; omega
    · have := hexAt_ok ⟨c.toNat % 16, by omega⟩; simp only [] at this; omega
  · rw [Wd.qb_plain hp] at h
    simp only [List.mem_singleton] at h
    subst h
    simp only [Wd.plain, Wd.plainI, Bool.and_eq_true, decide_eq_true_eq, bne_iff_ne] at hp
    omega
theorem body_mem (l : List UInt8) (d : UInt8) (h : d ∈ Wd.body l) : 32 ≤ d.toNat ∧ d.toNat ≤ 126 ∧ d.toNat ≠ 34 := by
  unfold Wd.body at h
  rw [List.mem_flatMap] at h
  obtain ⟨c, _, hd⟩ := h
  exact qb_mem c d hd
theorem quote_at (l : List UInt8) (k : Nat) (h : k < (Wd.quote l).length) : 32 ≤ ((Wd.quote l)[k]).toNat ∧ ((Wd.quote l)[k]).toNat ≤ 126 ∧ ((k = 0 ∨ k + 1 = (Wd.quote l).length) ∨ ((Wd.quote l)[k]).toNat ≠ 34) := by
  have hlen : (Wd.quote l).length = (Wd.body l).length + 2 := by simp [Wd.quote]
  cases k with
  | zero => exact ⟨by simp [Wd.quote], by simp [Wd.quote], Or.inl (Or.inl rfl)⟩
  | succ k =>
    by_cases hk : k < (Wd.body l).length
    · have e : (Wd.quote l)[k + 1] = (Wd.body l)[k] := by simp [Wd.quote, List.getElem_append_left hk]
      rw [e]
      have := body_mem l _ (List.getElem_mem hk)
      exact ⟨this.1, this.2.1, Or.inr this.2.2⟩
    · have hk2 : k = (Wd.body l).length := by omega
      have e : (Wd.quote l)[k + 1] = 34 := by subst hk2; simp [Wd.quote]
      rw [e]
      exact ⟨by decide, by decide, Or.inl (Or.inr (by omega))⟩
theorem quote_first (l : List UInt8) (h : 0 < (Wd.quote l).length) : (Wd.quote l)[0] = 34 := by simp [Wd.quote]
theorem quote_last (l : List UInt8) (h : (Wd.quote l).length - 1 < (Wd.quote l).length) : (Wd.quote l)[(Wd.quote l).length - 1] = 34 := by simp [Wd.quote]
theorem quote_len (l : List UInt8) : l.length + 2 ≤ (Wd.quote l).length ∧ (Wd.quote l).length ≤ 3 * l.length + 2 := by
  have := Wd.body_len l
  have hlen : (Wd.quote l).length = (Wd.body l).length + 2 := by simp [Wd.quote]
  omega

end Go.Proofs.YthiifacfkeibbaaDoor

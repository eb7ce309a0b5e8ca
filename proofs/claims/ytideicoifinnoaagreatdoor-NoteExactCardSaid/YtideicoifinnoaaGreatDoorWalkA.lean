/- Walks: Key, smallLetter, nameByte, Name. Walks: plain; string(b) of a row of the call's own. Walks: firstQuoted. Walks: Num, ParseNum. Walks: Unquote. -/
import Derived.Test.YtideicoifinnoaaGreatDoorProg
import Derived.Test.YtideicoifinnoaaGreatDoorPure
import Derived.WalkKit
import Derived.WalkSpells
import Derived.WalkLawsBesides
import Derived.Lib.Hide
import Derived.Lib.BufferRead
import Derived.Deep.RegionLaw
import Derived.Deep.AppendLies
import Derived.Test.YtideicoifinnoaaGreatDoorShelf
import Derived.WalkSmall
import Derived.Lib.SmallJoins
import Derived.Lib.LaidTab
namespace Go.Proofs.YtideicoifinnoaaGreatDoor
open Go Go.RowKit

theorem ret_bool {a b : Bool} (h : a = b) : Ending.returned (.bool a) = .returned (.bool b) := by rw [h]

set_option maxHeartbeats 400000 in
theorem lower_any (c : Int) (w : World) :
    Calls Tryz.prog 66 #[.int .u8 c] w fun e w' => e = .returned (.bool (Wd.lowI c)) ∧ w = w' := by
  by_cases h1 : 97 ≤ c <;> by_cases h2 : c ≤ 122 <;> go_enter Tryz.func66, Tryz.ntmps66 <;> go_wp2 <;> go_ret <;> exact ⟨ret_bool (by simp [Wd.lowI]; omega), rfl⟩

set_option maxHeartbeats 400000 in
theorem namebyte_any (c : Int) (w : World) :
    Calls Tryz.prog 67 #[.int .u8 c] w fun e w' => e = .returned (.bool (Wd.partI c)) ∧ w = w' := by
  go_enter Tryz.func67, Tryz.ntmps67
  go_wp2_with (go_at_call 66; refine (lower_any _ _).mono ?_; rintro e w' ⟨rfl, rfl⟩)
  all_goals go_ret
  all_goals exact ⟨ret_bool (by rw [Bool.eq_iff_iff]; simp [Wd.partI, *] <;> omega), rfl⟩

set_option maxHeartbeats 400000 in
theorem key_any (s : ByteArray) (w : World) :
    Calls Tryz.prog 56 #[.string s] w fun e w' => e = .returned (.bool (Wd.key s.data.toList)) ∧ w = w' := by
  rw [← ByteArray.toList_eq]
  go_enter Tryz.func56, Tryz.ntmps56
  go_wp2
  all_goals first | (exfalso; simp_all; done) | (go_ret; exact ⟨ret_bool (by simp only [Wd.key, Wd.keys, List.contains_cons, List.contains_nil, Bool.or_false, Bool.true_or, Bool.or_true, *]), rfl⟩)

theorem part_at {s : ByteArray} (k : Nat) (h : k < s.size) : Wd.part (s.data.toList[k]'(by simpa using h)) = Wd.partI (s[k].toNat) := rfl

set_option maxHeartbeats 400000 in
theorem name_any (s : ByteArray) (hs : s.size ≤ maxLen) (w : World) :
    Calls Tryz.prog 57 #[.string s] w fun e w' => e = .returned (.bool (Wd.name s.data.toList)) ∧ w = w' := by
  unfold maxLen at hs
  have hl : s.data.toList.length = s.size := by simp
  by_cases h0 : s.size = 0
  · have he : s.toList.isEmpty = true := by
      rw [ByteArray.toList_eq]; cases hc : s.data.toList with
      | nil => rfl
      | cons a r => rw [hc] at hl; simp at hl; omega
    have hn : Wd.name s.data.toList = false := by
      rw [ByteArray.toList_eq] at he
      cases hc : s.data.toList with
      | nil => rfl
      | cons a r => rw [hc] at he; simp at he
    have HN := Lib.hid hn; clear hn hl h0
    go_enter Tryz.func57, Tryz.ntmps57
    go_wp2_with fail
    go_ret
    exact ⟨ret_bool HN.out.symm, rfl⟩
  have hp : 0 < s.size := by omega
  have he : s.toList.isEmpty = false := by
    rw [ByteArray.toList_eq]; cases hc : s.data.toList with
    | nil => rw [hc] at hl; simp at hl; omega
    | cons a r => rfl
  have hlp : 0 < s.data.toList.length := by omega
  have hn := Wd.name_of s.data.toList hlp
  by_cases h1 : 32 < s.size
  · have hn2 : Wd.name s.data.toList = false := by rw [hn, hl, decide_eq_false (by omega)]; rfl
    have HN := Lib.hid hn2; clear hn2 hn hl h0 hlp
    go_enter Tryz.func57, Tryz.ntmps57
    go_wp2_with fail
    go_ret
    exact ⟨ret_bool HN.out.symm, rfl⟩
  have hle : s.size ≤ 32 := by omega
  rw [hl, decide_eq_true hle] at hn
  by_cases h2 : Wd.lowI (s[0].toNat) = true
  · have hn2 : Wd.name s.data.toList = ((s.data.toList.drop 1).all Wd.part && !Wd.key s.data.toList) := by
      rw [hn, show Wd.low s.data.toList[0] = true from h2]; simp
    have HN := Lib.hid hn2; have HL := Lib.hid hl; clear hn hn2 hl h0 h1
    go_enter Tryz.func57, Tryz.ntmps57
    go_wp2_with (go_at_call 66; refine (lower_any _ _).mono ?_; rintro e w' ⟨rfl, rfl⟩)
    go_loop [3] (fun i => ∃ k : Nat, 1 ≤ k ∧ k ≤ s.size ∧ i = .int .i64 k ∧ ((s.data.toList.take k).drop 1).all Wd.part = true) (fun i => s.size - (intOf i).toNat)
    case atStart => exact ⟨1, by omega, by omega, rfl, Wd.start_all _ _⟩
    case round =>
      obtain ⟨k, hk1, hk2, rfl, hall⟩ := hrel
      have HA := Lib.hid hall; clear hall
      by_cases hlt : k < s.size
      · have hlt' : k < s.data.toList.length := by rw [HL.out]; exact hlt
        by_cases hq : Wd.partI (s[k].toNat) = true
        · have hstep : ((s.data.toList.take (k + 1)).drop 1).all Wd.part = true := by
            rw [Wd.drop1_snoc _ k hk1 hlt', HA.out, show Wd.part s.data.toList[k] = true from hq]; rfl
          have HS := Lib.hid hstep; clear hstep
          go_wp2_with (go_at_call 67; refine (namebyte_any _ _).mono ?_; rintro e w' ⟨rfl, rfl⟩)
          go_round
          case rel => exact ⟨k + 1, by omega, by omega, by go_num, HS.out⟩
          case measure => simp [intOf]; omega
        · have hq' : Wd.partI (s[k].toNat) = false := by simpa using hq
          have hno : Wd.name s.data.toList = false := by
            rw [HN.out, Wd.all_no _ k hk1 hlt' _ (show Wd.part s.data.toList[k] = false from hq')]; rfl
          have HF := Lib.hid hno; clear hno hq
          go_wp2_with (go_at_call 67; refine (namebyte_any _ _).mono ?_; rintro e w' ⟨rfl, rfl⟩)
          go_ret
          exact ⟨ret_bool HF.out.symm, rfl⟩
      · have hfin : Wd.name s.data.toList = !Wd.key s.data.toList := by
          rw [HN.out]
          have h := HA.out
          rw [List.take_of_length_le (by rw [HL.out]; omega)] at h
          rw [h]; simp
        have HF := Lib.hid hfin; clear hfin
        go_wp2_with (go_at_call 56; refine (key_any _ _).mono ?_; rintro e w' ⟨rfl, rfl⟩)
        go_ret
        exact ⟨ret_bool HF.out.symm, rfl⟩
  · have h2' : Wd.lowI (s[0].toNat) = false := by simpa using h2
    have hn2 : Wd.name s.data.toList = false := by
      rw [hn, show Wd.low s.data.toList[0] = false from h2']; rfl
    have HN := Lib.hid hn2; clear hn hn2 hl h0 h1 h2
    go_enter Tryz.func57, Tryz.ntmps57
    go_wp2_with (go_at_call 66; refine (lower_any _ _).mono ?_; rintro e w' ⟨rfl, rfl⟩)
    go_ret
    exact ⟨ret_bool HN.out.symm, rfl⟩
end Go.Proofs.YtideicoifinnoaaGreatDoor
namespace Go.Proofs.YtideicoifinnoaaGreatDoor
open Go Go.RowKit

theorem info_u8 : (Tryz.prog.info? 5).map (fun i => (i.zero, i.size, i.bytes)) = some (some (.int .u8 0), 1, 1) := by kernel_rfl

set_option maxHeartbeats 400000 in
theorem plain_any (c : Int) (w : World) :
    Calls Tryz.prog 81 #[.int .u8 c] w fun e w' => e = .returned (.bool (Wd.plainI c)) ∧ w = w' := by
  go_enter Tryz.func81, Tryz.ntmps81
  go_wp2
  all_goals go_ret
  all_goals exact ⟨ret_bool (by rw [Bool.eq_iff_iff]; simp [Wd.plainI, *] <;> omega), rfl⟩

/-- 'string(b)' of a row of the call's own. -/
theorem conv_own {B : Nat} {v : Value} {l : List UInt8} {w : World} (hown : w.ownsRow B 5 1 v l.length (Lib.byteCells l)) :
    (convert 25 9 v).run Tryz.prog w = .ok (.string ⟨l.toArray⟩) w := by
  obtain ⟨_, h⟩ := hown
  rcases h with ⟨rfl, h0⟩ | ⟨g, cap, cur, rfl, _, hg, _, _, _, htake⟩
  · obtain rfl : l = [] := List.eq_nil_of_length_eq_zero h0
    exact Lib.run_convert_nil_bytes w _ _ 5 0 Tryz.underlying25 Tryz.underlying5 Tryz.underlying9
  · exact run_convert_bytes_back w _ _ 5 _ _ l Tryz.underlying25 Tryz.underlying5 Tryz.underlying9 (Lib.bytes_of_row hg (by simpa using htake))

theorem cells3 (w : World) (a b c : Value) (t : TypeId) : ∀ j u, [a, b, c][j]? = some u → (w.alloc (.cells #[a, b, c] t)).cell? ((⟨w.heap.size, 0, none⟩ : Addr).add j) = some u := by
  intro j u hj
  match j, hj with
  | 0, hj => simp at hj; subst hj; simp [Addr.add]
  | 1, hj => simp at hj; subst hj; simp [Addr.add]
  | 2, hj => simp at hj; subst hj; simp [Addr.add]
  | j + 3, hj => simp at hj

end Go.Proofs.YtideicoifinnoaaGreatDoor
namespace Go.Proofs.YtideicoifinnoaaGreatDoor
open Go Go.RowKit
open Go.Proofs

def HEX : ByteArray := { data := #[48, 49, 50, 51, 52, 53, 54, 55, 56, 57, 97, 98, 99, 100, 101, 102] }
/-- The place of a sign among the hexadecimal ones, or -1. -/
def hexIx (c : UInt8) : Int := Lib.indexByte Wd.hex c
theorem hexIx_spec : ∀ n : Fin 256, hexIx (UInt8.ofNat n.val) = -1 ∨ (0 ≤ hexIx (UInt8.ofNat n.val) ∧ hexIx (UInt8.ofNat n.val) < 16 ∧ Wd.hexAt (hexIx (UInt8.ofNat n.val)).toNat = UInt8.ofNat n.val) := by decide +kernel
theorem hexIx_cases (c : UInt8) : hexIx c = -1 ∨ ∃ k : Nat, k < 16 ∧ hexIx c = (k : Int) ∧ Wd.hexAt k = c := by
  have h := hexIx_spec ⟨c.toNat, c.toNat_lt⟩
  simp only [UInt8.ofNat_toNat] at h
  rcases h with h | ⟨h1, h2, h3⟩
  · exact Or.inl h
  · exact Or.inr ⟨(hexIx c).toNat, by omega, by omega, h3⟩
theorem hexIx_of : ∀ k : Fin 16, hexIx (Wd.hexAt k.val) = (k.val : Int) := by decide +kernel
theorem hexix_any (c : UInt8) (w : World) :
    Calls Tryz.prog 55 #[.string { data := #[48, 49, 50, 51, 52, 53, 54, 55, 56, 57, 97, 98, 99, 100, 101, 102] }, .int .u8 (c.toNat : Int)] w fun e w' => e = .returned (.int .i64 (hexIx c)) ∧ w = w' := by
  refine (Tryz.strings_IndexByte _ _ w).mono ?_
  rintro e w' ⟨rfl, rfl⟩
  refine ⟨?_, rfl⟩
  have e1 : ((c.toNat : Int)).toNat.toUInt8 = c := by simp
  rw [e1]; rfl

set_option maxHeartbeats 400000 in
theorem fq_plain (s : ByteArray) (h0 : 0 < s.size) (hp : Wd.plainI (s[0].toNat : Int) = true) (w : World) :
    Calls Tryz.prog 70 #[.string s] w fun e w' => e = .returned (.tuple #[.int .u8 (s[0].toNat : Int), .int .i64 1]) ∧ w = w' := by
  go_enter Tryz.func70, Tryz.ntmps70
  go_wp2_with (go_at_call 81; refine (plain_any _ _).mono ?_; rintro e w' ⟨rfl, rfl⟩)
  go_ret2
  exact ⟨rfl, rfl⟩

set_option maxHeartbeats 400000 in
theorem fq_other (s : ByteArray) (h0 : 0 < s.size) (hp : Wd.plainI (s[0].toNat : Int) = false) (h92 : ((s[0].toNat : Int) != 92) = true) (w : World) :
    Calls Tryz.prog 70 #[.string s] w fun e w' => e = .returned (.tuple #[.int .u8 0, .int .i64 0]) ∧ w = w' := by
  go_enter Tryz.func70, Tryz.ntmps70
  go_wp2_with (go_at_call 81; refine (plain_any _ _).mono ?_; rintro e w' ⟨rfl, rfl⟩)
  go_ret2
  exact ⟨rfl, rfl⟩

set_option maxHeartbeats 400000 in
theorem fq_short (s : ByteArray) (h0 : 0 < s.size) (hp : Wd.plainI (s[0].toNat : Int) = false) (h92 : ((s[0].toNat : Int) != 92) = false) (h3 : s.size < 3) (w : World) :
    Calls Tryz.prog 70 #[.string s] w fun e w' => e = .returned (.tuple #[.int .u8 0, .int .i64 0]) ∧ w = w' := by
  go_enter Tryz.func70, Tryz.ntmps70
  go_wp2_with (go_at_call 81; refine (plain_any _ _).mono ?_; rintro e w' ⟨rfl, rfl⟩)
  go_ret2
  exact ⟨rfl, rfl⟩

theorem bits_hex : ∀ a b : Fin 16, bits .or .i64 ((a.val : Int) * 16) (b.val : Int) % 256 = ((UInt8.ofNat (a.val * 16 + b.val)).toNat : Int) := by decide +kernel

set_option maxHeartbeats 400000 in
theorem fq_bad1 (s : ByteArray) (h3 : 3 ≤ s.size) (hp : Wd.plainI (s[0].toNat : Int) = false) (h92 : ((s[0].toNat : Int) != 92) = false) (h1 : hexIx s[1] = -1) (w : World) :
    Calls Tryz.prog 70 #[.string s] w fun e w' => e = .returned (.tuple #[.int .u8 0, .int .i64 0]) ∧ w = w' := by
  obtain ⟨i2, hi2⟩ : ∃ i2, hexIx s[2] = i2 := ⟨_, rfl⟩
  have c1 := hexix_any s[1]
  have c2 := hexix_any s[2]
  rw [h1] at c1; rw [hi2] at c2
  have C1 := Lib.hid c1; have C2 := Lib.hid c2
  clear c1 c2 h1 hi2
  go_enter Tryz.func70, Tryz.ntmps70
  go_wp2_with (go_at_call 81; refine (plain_any _ _).mono ?_; rintro e w' ⟨rfl, rfl⟩)
  refine (C1.out _).mono ?_; rintro e w' ⟨rfl, rfl⟩
  go_wp2_with fail
  refine (C2.out _).mono ?_; rintro e w' ⟨rfl, rfl⟩
  go_wp2_with fail
  go_ret2
  exact ⟨rfl, rfl⟩

set_option maxHeartbeats 400000 in
theorem fq_bad2 (s : ByteArray) (h3 : 3 ≤ s.size) (hp : Wd.plainI (s[0].toNat : Int) = false) (h92 : ((s[0].toNat : Int) != 92) = false) (k1 : Nat) (h1 : hexIx s[1] = (k1 : Int)) (h2 : hexIx s[2] = -1) (w : World) :
    Calls Tryz.prog 70 #[.string s] w fun e w' => e = .returned (.tuple #[.int .u8 0, .int .i64 0]) ∧ w = w' := by
  have c1 := hexix_any s[1]
  have c2 := hexix_any s[2]
  rw [h1] at c1; rw [h2] at c2
  have C1 := Lib.hid c1; have C2 := Lib.hid c2
  clear c1 c2 h1 h2
  go_enter Tryz.func70, Tryz.ntmps70
  go_wp2_with (go_at_call 81; refine (plain_any _ _).mono ?_; rintro e w' ⟨rfl, rfl⟩)
  refine (C1.out _).mono ?_; rintro e w' ⟨rfl, rfl⟩
  go_wp2_with fail
  refine (C2.out _).mono ?_; rintro e w' ⟨rfl, rfl⟩
  go_wp2_with fail
  go_ret2
  exact ⟨rfl, rfl⟩

set_option maxHeartbeats 400000 in
theorem fq_hex (s : ByteArray) (h3 : 3 ≤ s.size) (hp : Wd.plainI (s[0].toNat : Int) = false) (h92 : ((s[0].toNat : Int) != 92) = false) (k1 k2 : Nat) (b1 : k1 < 16) (b2 : k2 < 16) (h1 : hexIx s[1] = (k1 : Int)) (h2 : hexIx s[2] = (k2 : Int))
    (hq : Wd.plainI ((UInt8.ofNat (k1 * 16 + k2)).toNat : Int) = false) (w : World) :
    Calls Tryz.prog 70 #[.string s] w fun e w' => e = .returned (.tuple #[.int .u8 ((UInt8.ofNat (k1 * 16 + k2)).toNat : Int), .int .i64 3]) ∧ w = w' := by
  have c1 := hexix_any s[1]
  have c2 := hexix_any s[2]
  rw [h1] at c1; rw [h2] at c2
  have C1 := Lib.hid c1; have C2 := Lib.hid c2
  have hbit := bits_hex ⟨k1, b1⟩ ⟨k2, b2⟩
  simp only [] at hbit
  generalize (UInt8.ofNat (k1 * 16 + k2)) = cc at *
  clear c1 c2 h1 h2
  go_enter Tryz.func70, Tryz.ntmps70
  go_wp2_with (go_at_call 81; refine (plain_any _ _).mono ?_; rintro e w' ⟨rfl, rfl⟩)
  refine (C1.out _).mono ?_; rintro e w' ⟨rfl, rfl⟩
  go_wp2_with fail
  refine (C2.out _).mono ?_; rintro e w' ⟨rfl, rfl⟩
  go_wp2_with (go_at_call 81; refine (plain_any _ _).mono ?_; rintro e w' ⟨rfl, rfl⟩)
  go_ret2
  exact ⟨rfl, rfl⟩

set_option maxHeartbeats 400000 in
theorem fq_hexplain (s : ByteArray) (h3 : 3 ≤ s.size) (hp : Wd.plainI (s[0].toNat : Int) = false) (h92 : ((s[0].toNat : Int) != 92) = false) (k1 k2 : Nat) (b1 : k1 < 16) (b2 : k2 < 16) (h1 : hexIx s[1] = (k1 : Int)) (h2 : hexIx s[2] = (k2 : Int))
    (hq : Wd.plainI ((UInt8.ofNat (k1 * 16 + k2)).toNat : Int) = true) (w : World) :
    Calls Tryz.prog 70 #[.string s] w fun e w' => e = .returned (.tuple #[.int .u8 0, .int .i64 0]) ∧ w = w' := by
  have c1 := hexix_any s[1]
  have c2 := hexix_any s[2]
  rw [h1] at c1; rw [h2] at c2
  have C1 := Lib.hid c1; have C2 := Lib.hid c2
  have hbit := bits_hex ⟨k1, b1⟩ ⟨k2, b2⟩
  simp only [] at hbit
  generalize (UInt8.ofNat (k1 * 16 + k2)) = cc at *
  clear c1 c2 h1 h2
  go_enter Tryz.func70, Tryz.ntmps70
  go_wp2_with (go_at_call 81; refine (plain_any _ _).mono ?_; rintro e w' ⟨rfl, rfl⟩)
  refine (C1.out _).mono ?_; rintro e w' ⟨rfl, rfl⟩
  go_wp2_with fail
  refine (C2.out _).mono ?_; rintro e w' ⟨rfl, rfl⟩
  go_wp2_with (go_at_call 81; refine (plain_any _ _).mono ?_; rintro e w' ⟨rfl, rfl⟩)
  go_ret2
  exact ⟨rfl, rfl⟩

theorem at_list {s : ByteArray} {l : List UInt8} (h : s.data.toList = l) (k : Nat) (hk : k < s.size) : l[k]? = some s[k] := by
  subst h
  rw [List.getElem?_eq_getElem (by simpa using hk)]; rfl
theorem size_list {s : ByteArray} {l : List UInt8} (h : s.data.toList = l) : s.size = l.length := by
  subst h; simp
theorem ret_tuple2 {a b c d : Value} (h1 : a = c) (h2 : b = d) : Ending.returned (.tuple #[a, b]) = .returned (.tuple #[c, d]) := by rw [h1, h2]

/-- WHERE s BEGINS WITH WHAT STANDS FOR A BYTE: the byte, and its length. -/
theorem fq_yes (s : ByteArray) (c : UInt8) (r : List UInt8) (h : s.data.toList = Wd.qb c ++ r) (w : World) :
    Calls Tryz.prog 70 #[.string s] w fun e w' => e = .returned (.tuple #[.int .u8 (c.toNat : Int), .int .i64 ((Wd.qb c).length : Int)]) ∧ w = w' := by
  have hsz := size_list h
  cases hc : Wd.plain c
  · rw [Wd.qb_hex hc] at h hsz
    rw [Wd.qb_hex hc]
    simp only [List.length_append, List.length_cons, List.length_nil] at hsz
    have hlt := c.toNat_lt
    have e0 := at_list h 0 (by omega)
    have e1 := at_list h 1 (by omega)
    have e2 := at_list h 2 (by omega)
    simp only [List.cons_append, List.getElem?_cons_zero, List.getElem?_cons_succ, Option.some.injEq] at e0 e1 e2
    have hk1 := hexIx_of ⟨c.toNat / 16, by omega⟩
    have hk2 := hexIx_of ⟨c.toNat % 16, by omega⟩
    simp only [] at hk1 hk2
    have hcc : UInt8.ofNat (c.toNat / 16 * 16 + c.toNat % 16) = c := by
      rw [show c.toNat / 16 * 16 + c.toNat % 16 = c.toNat from by omega]; simp
    refine (fq_hex s (by omega) (by rw [← e0]; decide) (by rw [← e0]; decide) (c.toNat / 16) (c.toNat % 16) (by omega) (by omega) (by rw [← e1]; exact hk1) (by rw [← e2]; exact hk2) (by rw [hcc]; exact hc) w).mono ?_
    rintro e w' ⟨rfl, rfl⟩
    rw [hcc]
    exact ⟨rfl, rfl⟩
  · rw [Wd.qb_plain hc] at h hsz
    rw [Wd.qb_plain hc]
    simp only [List.length_append, List.length_cons, List.length_nil] at hsz
    have e0 := at_list h 0 (by omega)
    simp only [List.cons_append, List.getElem?_cons_zero, Option.some.injEq] at e0
    refine (fq_plain s (by omega) (by rw [← e0]; exact hc) w).mono ?_
    rintro e w' ⟨rfl, rfl⟩
    exact ⟨ret_tuple2 (by rw [← e0]) rfl, rfl⟩

/-- WHERE IT DOES NOT: 0 and 0. -/
theorem fq_no (s : ByteArray) (h0 : 0 < s.size) (h : ∀ c r, s.data.toList ≠ Wd.qb c ++ r) (w : World) :
    Calls Tryz.prog 70 #[.string s] w fun e w' => e = .returned (.tuple #[.int .u8 0, .int .i64 0]) ∧ w = w' := by
  have hl : s.data.toList.length = s.size := by simp
  have hd : s.data.toList = s[0] :: s.data.toList.drop 1 := by
    exact List.drop_eq_getElem_cons (l := s.data.toList) (i := 0) (by omega)
  cases hp : Wd.plainI (s[0].toNat : Int)
  · by_cases h92 : s[0] = 92
    · have hb : ((s[0].toNat : Int) != 92) = false := by rw [h92]; decide
      by_cases h3 : 3 ≤ s.size
      · rcases hexIx_cases s[1] with h1 | ⟨k1, b1, h1, e1⟩
        · exact fq_bad1 s h3 hp hb h1 w
        · rcases hexIx_cases s[2] with h2 | ⟨k2, b2, h2, e2⟩
          · exact fq_bad2 s h3 hp hb k1 h1 h2 w
          · cases hq : Wd.plainI ((UInt8.ofNat (k1 * 16 + k2)).toNat : Int)
            · exfalso
              refine h (UInt8.ofNat (k1 * 16 + k2)) (s.data.toList.drop 3) ?_
              have en : (UInt8.ofNat (k1 * 16 + k2)).toNat = k1 * 16 + k2 := by rw [UInt8.toNat_ofNat']; omega
              rw [Wd.qb_hex (show Wd.plain _ = false from hq), en, show (k1 * 16 + k2) / 16 = k1 from by omega, show (k1 * 16 + k2) % 16 = k2 from by omega, e1, e2]
              have d1 := List.drop_eq_getElem_cons (l := s.data.toList) (i := 1) (by omega)
              have d2 := List.drop_eq_getElem_cons (l := s.data.toList) (i := 2) (by omega)
              rw [hd, d1, d2, h92]; rfl
            · exact fq_hexplain s h3 hp hb k1 k2 b1 b2 h1 h2 hq w
      · exact fq_short s h0 hp hb (by omega) w
    · have hb : ((s[0].toNat : Int) != 92) = true := by
        rw [bne_iff_ne]
        intro e
        exact h92 (UInt8.toNat_inj.1 (by have : (92 : UInt8).toNat = 92 := rfl; omega))
      exact fq_other s h0 hp hb w
  · exact absurd (by rw [Wd.qb_plain (show Wd.plain s[0] = true from hp)]; exact hd) (h s[0] (s.data.toList.drop 1))
end Go.Proofs.YtideicoifinnoaaGreatDoor
namespace Go.Proofs.YtideicoifinnoaaGreatDoor
open Go Go.RowKit
open Go.Proofs

theorem gTab : Tryz.prog.globalNamed "internal/strconv.uint64pow10" = some 0 := by kernel_rfl
theorem gSyn : Tryz.prog.globalNamed "strconv.ErrSyntax" = some 2 := by kernel_rfl
theorem gRng : Tryz.prog.globalNamed "strconv.ErrRange" = some 3 := by kernel_rfl
/-- What the library's variables hold, and that they lie among the world's blocks. -/
structure Good (w : World) : Prop where
  tab : Lib.TabIs Tryz.prog w "internal/strconv.uint64pow10" .u64 Lib.pow10Tab
  syn : ∃ tp p, w.var? Tryz.prog "strconv.ErrSyntax" = some #[.iface tp p]
  rng : ∃ tp p, w.var? Tryz.prog "strconv.ErrRange" = some #[.iface tp p]
theorem var_lt {w : World} {n : String} {g : Nat} {cs : Array Value} (hg : Tryz.prog.globalNamed n = some g) (h : w.var? Tryz.prog n = some cs) : g < w.heap.size := by
  unfold World.var? at h
  rw [hg] at h
  simp only [Option.bind_some] at h
  rcases Nat.lt_or_ge g w.heap.size with hlt | hge
  · exact hlt
  · rw [Array.getElem?_eq_none hge] at h; simp at h
theorem Good.below {w w' : World} (h : Good w) (hb : Below w.heap.size w w') : Good w' := by
  obtain ⟨ht, ⟨a, p, hs⟩, ⟨b, q, hr⟩⟩ := h
  exact ⟨var?_below hb gTab (var_lt gTab ht) ht, ⟨a, p, var?_below hb gSyn (var_lt gSyn hs) hs⟩, ⟨b, q, var?_below hb gRng (var_lt gRng hr) hr⟩⟩

theorem below_drewN (B : Nat) (w : World) (k : Nat) : Below B w (w.drewN k) := ⟨rfl, rfl, rfl, Nat.le_refl _, fun _ _ => rfl⟩
theorem below_grow (w : World) (k : Nat) (os : Array Obj) : Below w.heap.size w (Sort.grow (w.drewN k) os) :=
  (below_drewN _ w k).trans ⟨rfl, rfl, rfl, by simp, fun i hi => Sort.heap_grow_old _ _ hi⟩

/-! ### The library's cuts -/
theorem cut_yes (s : ByteArray) (c : UInt8) (r : List UInt8) (h : s.data.toList = c :: r) (w : World) :
    Calls Tryz.prog 54 #[.string s, .string { data := #[c] }] w fun e w' => e = .returned (.tuple #[.string ⟨r.toArray⟩, .bool true]) ∧ w = w' := by
  refine (Tryz.strings_CutPrefix _ _ w).mono ?_
  rintro e w' ⟨rfl, rfl⟩
  rw [h]
  exact ⟨by simp [Lib.trimPrefix, Lib.hasPrefix], rfl⟩
theorem cut_no (s : ByteArray) (c : UInt8) (h : s.data.toList.head? ≠ some c) (w : World) :
    Calls Tryz.prog 54 #[.string s, .string { data := #[c] }] w fun e w' => e = .returned (.tuple #[.string s, .bool false]) ∧ w = w' := by
  refine (Tryz.strings_CutPrefix _ _ w).mono ?_
  rintro e w' ⟨rfl, rfl⟩
  have hp : Lib.hasPrefix s.data.toList [c] = false := by
    cases hl : s.data.toList with
    | nil => rfl
    | cons a r =>
      rw [hl] at h; simp at h
      simp only [Lib.hasPrefix, List.isPrefixOf, Bool.and_eq_false_iff, beq_eq_false_iff_ne]; exact Or.inl fun e => h e.symm
  refine ⟨?_, rfl⟩
  show Ending.returned (.tuple #[.string ⟨(Lib.trimPrefix s.data.toList [c]).toArray⟩, .bool (Lib.hasPrefix s.data.toList [c])]) = _
  rw [Lib.trimPrefix, hp, if_neg (by simp), Lib.mk_data]
theorem suf_yes (s : ByteArray) (c : UInt8) (r : List UInt8) (h : s.data.toList = r ++ [c]) (hs : s.size ≤ 9223372036854775807) (w : World) :
    Calls Tryz.prog 69 #[.string s, .string { data := #[c] }] w fun e w' => e = .returned (.tuple #[.string ⟨r.toArray⟩, .bool true]) ∧ w = w' := by
  refine (Tryz.strings_CutSuffix _ _ w hs).mono ?_
  rintro e w' ⟨rfl, rfl⟩
  rw [h]
  have hp : Lib.hasSuffix (r ++ [c]) [c] = true := by simp [Lib.hasSuffix]
  refine ⟨?_, rfl⟩
  show Ending.returned (.tuple #[.string ⟨(Lib.trimSuffix (r ++ [c]) [c]).toArray⟩, .bool (Lib.hasSuffix (r ++ [c]) [c])]) = _
  rw [Lib.trimSuffix, hp, if_pos rfl]; simp
theorem suf_no (s : ByteArray) (c : UInt8) (h : ∀ r, s.data.toList ≠ r ++ [c]) (hs : s.size ≤ 9223372036854775807) (w : World) :
    Calls Tryz.prog 69 #[.string s, .string { data := #[c] }] w fun e w' => e = .returned (.tuple #[.string s, .bool false]) ∧ w = w' := by
  refine (Tryz.strings_CutSuffix _ _ w hs).mono ?_
  rintro e w' ⟨rfl, rfl⟩
  have hp : Lib.hasSuffix s.data.toList [c] = false := by
    cases hh : Lib.hasSuffix s.data.toList [c] with
    | false => rfl
    | true =>
      obtain ⟨r, hr⟩ := List.isSuffixOf_iff_suffix.1 hh
      exact absurd hr.symm (h r)
  refine ⟨?_, rfl⟩
  show Ending.returned (.tuple #[.string ⟨(Lib.trimSuffix s.data.toList [c]).toArray⟩, .bool (Lib.hasSuffix s.data.toList [c])]) = _
  rw [Lib.trimSuffix, hp, if_neg (by simp), Lib.mk_data]

theorem ret_string {a b : ByteArray} (h : a.data.toList = b.data.toList) : Ending.returned (.string a) = .returned (.string b) := by
  have : a = b := by cases a; cases b; congr 1; exact Array.toList_inj.1 h
  rw [this]

set_option maxHeartbeats 400000 in
theorem num_any (n : Int) (h : Wd.inI64 n) (w : World) (hg : Good w) :
    Calls Tryz.prog 32 #[.int .i64 n] w fun e w' => e = .returned (.string ⟨(Wd.num n).toArray⟩) ∧ Below w.heap.size w w' := by
  obtain ⟨hlo, hhi⟩ := h
  have ht := hg.tab
  have HT := Lib.hid ht
  have hlen := Wd.dec_len20 n.natAbs (by omega)
  clear ht hg
  by_cases hn : n < 0
  · obtain ⟨e1, e2⟩ := Wd.num_neg hn
    have E1 := Lib.hid e1; have E2 := Lib.hid e2; clear e1 e2
    go_enter Tryz.func32, Tryz.ntmps32
    go_wp2_with fail
    refine (Tryz.strconv_FormatInt_10 n hlo hhi _ HT.out).mono ?_
    rintro e w1 ⟨rfl, k, os, rfl⟩
    rw [E2.out]
    have hb := below_grow w k os
    generalize Sort.grow (w.drewN k) os = w1 at *
    go_wp2_with (go_at_call 54; refine (cut_yes _ 45 (Lib.decDigits n.natAbs) (by simp) _).mono ?_; rintro e w' ⟨rfl, rfl⟩)
    go_ret
    exact ⟨ret_string (by rw [E1.out]; simp), hb⟩
  · obtain ⟨e1, e2⟩ := Wd.num_pos hn
    obtain ⟨c, r, hd, hc1, hc2⟩ := Wd.dec_head n.toNat
    rw [hd] at e1 e2
    have hne : (c :: r).head? ≠ some 45 := by
      simp; rintro rfl; simp at hc1
    have E1 := Lib.hid e1; have E2 := Lib.hid e2; have HN := Lib.hid hne; clear e1 e2 hne hd hc1 hc2
    go_enter Tryz.func32, Tryz.ntmps32
    go_wp2_with fail
    refine (Tryz.strconv_FormatInt_10 n hlo hhi _ HT.out).mono ?_
    rintro e w1 ⟨rfl, k, os, rfl⟩
    rw [E2.out]
    have hb := below_grow w k os
    generalize Sort.grow (w.drewN k) os = w1 at *
    go_wp2_with (go_at_call 54; refine (cut_no _ 45 (by simpa using HN.out) _).mono ?_; rintro e w' ⟨rfl, rfl⟩)
    go_ret
    exact ⟨ret_string (by rw [E1.out]), hb⟩

/-! ### ParseInt -/
theorem pi_any (s : ByteArray) (hlim : s.size ≤ 281474976710656) (w : World) (hg : Good w) :
    Calls Tryz.prog 68 #[.string s, .int .i64 10, .int .i64 64] w fun e w' => (∃ v, Lib.parseIntB 64 s.data.toList = .ok v ∧ e = .returned (.tuple #[.int .i64 v, .nilIface]) ∧ Below w.heap.size w w') ∨ (∃ v tp p, (∀ u, Lib.parseIntB 64 s.data.toList ≠ .ok u) ∧ e = .returned (.tuple #[.int .i64 v, .iface tp p]) ∧ Below w.heap.size w w') := by
  rcases Wd.end3 (Lib.parseIntB 64 s.data.toList) with ⟨v, h⟩ | h | h
  · refine (Tryz.strconv_ParseInt_10_at64_ok s (by omega) v h w).mono ?_
    rintro e w' ⟨rfl, hw⟩
    refine Or.inl ⟨v, h, rfl, ?_⟩
    rcases hw with rfl | ⟨t, rfl⟩
    · exact Below.refl _ _
    · exact Lib.bytesWorld_below _ _ _
  · obtain ⟨tp, p, hv⟩ := hg.syn
    refine (Tryz.strconv_ParseInt_10_at64_syntax_var s hlim h tp p w hv).mono ?_
    rintro e w' ⟨N, rfl, -, -, hb⟩
    exact Or.inr ⟨_, _, _, (by rw [h]; intro u e; cases e), rfl, hb⟩
  · obtain ⟨tp, p, hv⟩ := hg.rng
    refine (Tryz.strconv_ParseInt_10_at64_range_var s hlim h tp p w hv).mono ?_
    rintro e w' ⟨N, rfl, -, -, hb⟩
    exact Or.inr ⟨_, _, _, (by rw [h]; intro u e; cases e), rfl, hb⟩

set_option maxHeartbeats 400000 in
theorem parse_yes (n : Int) (h : Wd.inI64 n) (w : World) (hg : Good w) :
    Calls Tryz.prog 58 #[.string ⟨(Wd.num n).toArray⟩] w fun e w' => e = .returned (.tuple #[.int .i64 n, .int .i64 0]) ∧ Below w.heap.size w w' := by
  have hp := Wd.parse_itoa n h
  have hlen := Wd.dec_len20 n.natAbs (Wd.natAbs_lt n h)
  have hlen2 := Wd.num_len n h
  have HG := Lib.hid hg; clear hg
  have HH := Lib.hid h; clear h
  by_cases hn : n < 0
  · obtain ⟨e1, e2⟩ := Wd.num_neg hn
    rw [e2] at hp
    have E1 := Lib.hid e1; have HP := Lib.hid hp; clear e1 e2 hp
    go_enter Tryz.func58, Tryz.ntmps58
    go_wp2_with (go_at_call 54; refine (cut_yes _ 126 (Lib.decDigits n.natAbs) (by simpa using E1.out) _).mono ?_; rintro e w' ⟨rfl, rfl⟩)
    refine (pi_any _ (by simp [Lib.size_eq]; omega) _ HG.out).mono ?_
    have ex : ({ data := #[45] } ++ { data := (Lib.decDigits n.natAbs).toArray } : ByteArray).data.toList = 45 :: Lib.decDigits n.natAbs := by simp
    rw [ex, HP.out]
    clear ex
    rintro e w1 (⟨v, hv, rfl, hb⟩ | ⟨v, tp, p, hno, rfl, hb⟩)
    · injection hv with hv; subst hv
      go_wp2_with (go_at_call 32; refine (num_any n HH.out _ (HG.out.below hb)).mono ?_; rintro e w2 ⟨rfl, hb2⟩)
      go_ret2
      exact ⟨rfl, hb.trans (hb2.mono hb.size)⟩
    · exact absurd rfl (hno n)
  · obtain ⟨e1, e2⟩ := Wd.num_pos hn
    obtain ⟨c, r, hd, hc1, hc2⟩ := Wd.dec_head n.toNat
    have hne : (Wd.num n).head? ≠ some 126 := by
      rw [e1, hd]; simp; rintro rfl; simp at hc2
    rw [e2, ← e1] at hp
    have HN := Lib.hid hne; have HP := Lib.hid hp; clear e1 e2 hp hne hd hc1 hc2
    go_enter Tryz.func58, Tryz.ntmps58
    go_wp2_with (go_at_call 54; refine (cut_no _ 126 (by simpa using HN.out) _).mono ?_; rintro e w' ⟨rfl, rfl⟩)
    refine (pi_any _ (by simp [Lib.size_eq]; omega) _ HG.out).mono ?_
    have ex : ({ data := (Wd.num n).toArray } : ByteArray).data.toList = Wd.num n := by simp
    rw [ex, HP.out]
    clear ex
    rintro e w1 (⟨v, hv, rfl, hb⟩ | ⟨v, tp, p, hno, rfl, hb⟩)
    · injection hv with hv; subst hv
      go_wp2_with (go_at_call 32; refine (num_any n HH.out _ (HG.out.below hb)).mono ?_; rintro e w2 ⟨rfl, hb2⟩)
      go_ret2
      exact ⟨rfl, hb.trans (hb2.mono hb.size)⟩
    · exact absurd rfl (hno n)

theorem in_of_ok {l : List UInt8} {v : Int} (h : Lib.parseIntB 64 l = .ok v) : Wd.inI64 v := by
  have hb := Lib.parseIntB_bounds h
  have hp2 : (2 : Nat) ^ (64 - 1) = 9223372036854775808 := by decide
  rw [hp2] at hb
  exact ⟨by omega, by omega⟩

set_option maxHeartbeats 400000 in
theorem parse_no (s : ByteArray) (hs : s.size ≤ 1000000) (h : ∀ n, Wd.inI64 n → Wd.num n ≠ s.data.toList) (w : World) (hg : Good w) :
    Calls Tryz.prog 58 #[.string s] w fun e w' => e = .returned (.tuple #[.int .i64 0, .int .i64 3]) ∧ Below w.heap.size w w' := by
  have hl : s.data.toList.length = s.size := by simp
  have HG := Lib.hid hg; clear hg
  have HH := Lib.hid h; clear h
  by_cases hp : ∃ r, s.data.toList = 126 :: r
  · obtain ⟨r, hr⟩ := hp
    have hrl : r.length ≤ 1000000 := by rw [hr] at hl; simp at hl; omega
    have HR := Lib.hid hr; clear hr hl
    go_enter Tryz.func58, Tryz.ntmps58
    go_wp2_with (go_at_call 54; refine (cut_yes _ 126 r HR.out _).mono ?_; rintro e w' ⟨rfl, rfl⟩)
    refine (pi_any _ (by simp [Lib.size_eq]; omega) _ HG.out).mono ?_
    rintro e w1 (⟨v, hv, rfl, hb⟩ | ⟨v, tp, p, hno, rfl, hb⟩)
    · have hin := in_of_ok hv
      have hne : (Wd.num v == s.toList) = false := by
        rw [beq_eq_false_iff_ne, ByteArray.toList_eq]; exact HH.out v hin
      have HI := Lib.hid hin; clear hv hin
      go_wp2_with (go_at_call 32; refine (num_any v HI.out _ (HG.out.below hb)).mono ?_; rintro e w2 ⟨rfl, hb2⟩)
      all_goals go_ret2
      all_goals exact ⟨rfl, hb.trans (hb2.mono hb.size)⟩
    · clear hno
      go_wp2_with fail
      go_ret2
      exact ⟨rfl, hb⟩
  · have hne : s.data.toList.head? ≠ some 126 := by
      cases hd : s.data.toList with
      | nil => simp
      | cons a r => simp; rintro rfl; exact hp ⟨r, hd⟩
    have HN := Lib.hid hne; clear hne hp
    go_enter Tryz.func58, Tryz.ntmps58
    go_wp2_with (go_at_call 54; refine (cut_no _ 126 HN.out _).mono ?_; rintro e w' ⟨rfl, rfl⟩)
    refine (pi_any _ (by omega) _ HG.out).mono ?_
    rintro e w1 (⟨v, hv, rfl, hb⟩ | ⟨v, tp, p, hno, rfl, hb⟩)
    · have hin := in_of_ok hv
      have hne : (Wd.num v == s.toList) = false := by
        rw [beq_eq_false_iff_ne, ByteArray.toList_eq]; exact HH.out v hin
      have HI := Lib.hid hin; clear hv hin
      go_wp2_with (go_at_call 32; refine (num_any v HI.out _ (HG.out.below hb)).mono ?_; rintro e w2 ⟨rfl, hb2⟩)
      all_goals go_ret2
      all_goals exact ⟨rfl, hb.trans (hb2.mono hb.size)⟩
    · clear hno
      go_wp2_with fail
      go_ret2
      exact ⟨rfl, hb⟩
end Go.Proofs.YtideicoifinnoaaGreatDoor
namespace Go.Proofs.YtideicoifinnoaaGreatDoor
open Go Go.RowKit
open Go.Proofs

def strLen : Value → Nat | .string s => s.size | _ => 0
theorem own_shape {w : World} {B : Nat} {e : TypeId} {v : Value} {n : Nat} {xs : List Value} (h : w.ownsRow B e 1 v n xs) : ∃ a cap, v = .slice a n cap := by
  rcases h.2 with ⟨rfl, rfl⟩ | ⟨g, cap, cur, rfl, _⟩
  · exact ⟨none, 0, rfl⟩
  · exact ⟨_, cap, rfl⟩
theorem extract_string {x y : List UInt8} {m n : Nat} (h : x.drop m = y) (hn : x.length ≤ n) : Value.string ((⟨x.toArray⟩ : ByteArray).extract m n) = .string ⟨y.toArray⟩ := by
  rw [Lib.extract_eq, ← h]
  congr 3
  rw [List.take_of_length_le]
  simp; omega
theorem string_eq {a b : List UInt8} (h : a = b) : Value.string ⟨a.toArray⟩ = Value.string ⟨b.toArray⟩ := by rw [h]

set_option maxHeartbeats 1000000 in
theorem unq_yes (s : ByteArray) (t : List UInt8) (ht : t.length ≤ 200) (h : s.data.toList = Wd.quote t) (w : World) :
    Calls Tryz.prog 59 #[.string s] w fun e w' => e = .returned (.tuple #[.string ⟨t.toArray⟩, .int .i64 0]) ∧ Below w.heap.size w w' := by
  obtain ⟨i0, hi, hz0, hz1, hz2⟩ := info_parts info_u8
  have hbl := (Wd.body_len t).2
  have H := Lib.hid h; clear h
  go_enter Tryz.func59, Tryz.ntmps59
  go_wp2_with (first | (go_at_call 54; refine (cut_yes _ 34 (Wd.body t ++ [34]) H.out _).mono ?_; rintro e w' ⟨rfl, rfl⟩) | (go_at_call 69; refine (suf_yes _ 34 (Wd.body t) (by simp) (by simp [Lib.size_eq]; omega) _).mono ?_; rintro e w' ⟨rfl, rfl⟩))
  go_loopw [4, 7] (fun r v wr => ∃ k : Nat, k ≤ t.length ∧ r = .string ⟨(Wd.body (t.drop k)).toArray⟩ ∧ wr.ownsRow w.heap.size 5 1 v (t.take k).length (Lib.byteCells (t.take k)) ∧ Below w.heap.size w wr) (fun r _ _ => strLen r)
  case atStart => exact ⟨0, Nat.zero_le _, rfl, World.ownsRow_nil _ _ _ _, Below.refl _ _⟩
  case round =>
    obtain ⟨k, hk, rfl, hown, hb⟩ := hrel
    have hbs := hb.size
    by_cases hlt : k < t.length
    · obtain ⟨x, hx⟩ : ∃ x, x = Wd.body (t.drop k) := ⟨_, rfl⟩
      have hx2 : x = Wd.qb t[k] ++ Wd.body (t.drop (k + 1)) := by rw [hx, List.drop_eq_getElem_cons hlt, Wd.body_cons]
      have hql := Wd.qb_len t[k]
      obtain ⟨m, hm⟩ : ∃ m, m = (Wd.qb t[k]).length := ⟨_, rfl⟩
      have hxl : m ≤ x.length := by rw [hx2, hm]; simp
      have hxe : x.isEmpty = false := by
        cases hc : x with
        | nil => rw [hc] at hxl; simp at hxl; omega
        | cons a r => rfl
      have hdrop : x.drop m = Wd.body (t.drop (k + 1)) := by rw [hx2, hm]; simp
      have hxb : x.length ≤ 1000 := by
        rw [hx]; have h1 := (Wd.body_len (t.drop k)).2; have h2 : (t.drop k).length ≤ t.length := by simp
        omega
      have hsn : (t.take k).length = k := by simp; omega
      have hcells : Lib.byteCells (t.take (k + 1)) = Lib.byteCells (t.take k) ++ [.int .u8 (t[k].toNat : Int)] := by
        rw [List.take_succ_eq_append_getElem hlt]; unfold Lib.byteCells; rw [List.map_append]; rfl
      have hm1 : 1 ≤ m := by omega
      have hm3 : m ≤ 3 := by omega
      have hm0 : ((m : Int) == 0) = false := by rw [beq_eq_false_iff_ne]; omega
      have hk2 : ((k : Int) == 200) = false := by rw [beq_eq_false_iff_ne]; omega
      have fq := fq_yes ⟨x.toArray⟩ t[k] (Wd.body (t.drop (k + 1))) (by simpa using hx2)
      rw [← hm] at fq
      rw [← hx]
      rw [hsn] at hown
      obtain ⟨a, cap, rfl⟩ := own_shape hown
      have FQ := Lib.hid fq; have HD := Lib.hid hdrop; have HC := Lib.hid hcells; have HS := Lib.hid hsn
      clear hx hx2 hm fq hdrop hcells hsn hql hbl
      generalize t[k] = c at *
      go_wp2_with (first | (go_at_call 70; refine (FQ.out _).mono ?_; rintro e w' ⟨rfl, rfl⟩) | (at_builtin; refine wpList_append_own _ rfl _ _ 25 rfl w.heap.size 5 i0 (.int .u8 0) 1 1 Tryz.underlying25 hi hz0 hz1 hz2 rfl (by decide) _ _ _ rfl (hown.alloc _) ⟨wr.heap.size, 0, none⟩ 1 1 [.int .u8 (c.toNat : Int)] rfl rfl ?c1 ?c2 ?c3 ?c4 ?c5 ?_))
      case c1 => exact cell_one_new _ _ _
      case c2 => intro u hu; simp at hu; subst hu; rfl
      case c3 => unfold maxLen; omega
      case c4 => omega
      case c5 => simp; omega
      intro v' w1 hown' hg _
      have hb2 := (hb.alloc hbs _).grown hg (by simp; omega) (fun k hk => (hown.lt k hk).1)
      go_wp2
      go_roundw
      case rel => exact ⟨k + 1, by omega, extract_string HD.out (by simp), by rw [HC.out, show (t.take (k + 1)).length = k + 1 from by simp; omega]; exact hown', hb2⟩
      case measure => simp [strLen, Lib.size_eq]; omega
    · obtain rfl : k = t.length := by omega
      rw [List.drop_length, List.take_length] at *
      have hcv := conv_own hown
      have he : (Wd.body ([] : List UInt8)) = [] := rfl
      rw [he]
      obtain ⟨a, cap, rfl⟩ := own_shape hown
      clear he
      go_wp2_with fail
      go_ret2
      exact ⟨rfl, hb⟩

theorem suf_some (s : ByteArray) (c : UInt8) (hs : s.size ≤ 9223372036854775807) (w : World) :
    Calls Tryz.prog 69 #[.string s, .string { data := #[c] }] w fun e w' => ∃ r b, e = .returned (.tuple #[.string r, .bool b]) ∧ w = w' := by
  refine (Tryz.strings_CutSuffix _ _ w hs).mono ?_
  rintro e w' ⟨rfl, rfl⟩
  exact ⟨_, _, rfl, rfl⟩

set_option maxHeartbeats 400000 in
theorem unq_no1 (s : ByteArray) (hs : s.size ≤ 1000000) (h : s.data.toList.head? ≠ some 34) (w : World) :
    Calls Tryz.prog 59 #[.string s] w fun e w' => e = .returned (.tuple #[.string ⟨#[]⟩, .int .i64 3]) ∧ w = w' := by
  have H := Lib.hid h; clear h
  go_enter Tryz.func59, Tryz.ntmps59
  go_wp2_with (first | (go_at_call 54; refine (cut_no _ 34 H.out _).mono ?_; rintro e w' ⟨rfl, rfl⟩) | (go_at_call 69; refine (suf_some _ 34 (by omega) _).mono ?_; rintro e w' ⟨r, b, rfl, rfl⟩))
  go_ret2
  exact ⟨rfl, rfl⟩

set_option maxHeartbeats 400000 in
theorem unq_no2 (s : ByteArray) (hs : s.size ≤ 1000000) (r : List UInt8) (h : s.data.toList = 34 :: r) (hr : ∀ x, r ≠ x ++ [34]) (w : World) :
    Calls Tryz.prog 59 #[.string s] w fun e w' => e = .returned (.tuple #[.string ⟨#[]⟩, .int .i64 3]) ∧ w = w' := by
  have hl := size_list h
  have hrl : r.length ≤ 1000000 := by simp at hl; omega
  have H := Lib.hid h; have HR := Lib.hid hr; clear h hr hl
  go_enter Tryz.func59, Tryz.ntmps59
  go_wp2_with (first | (go_at_call 54; refine (cut_yes _ 34 r H.out _).mono ?_; rintro e w' ⟨rfl, rfl⟩) | (go_at_call 69; refine (suf_no _ 34 (by simpa using HR.out) (by simp [Lib.size_eq]; omega) _).mono ?_; rintro e w' ⟨rfl, rfl⟩))
  go_ret2
  exact ⟨rfl, rfl⟩

set_option maxHeartbeats 1000000 in
theorem unq_no3 (s : ByteArray) (hs : s.size ≤ 1000000) (y : List UInt8) (hy : s.data.toList = 34 :: (y ++ [34])) (h : ∀ t, t.length ≤ 200 → Wd.quote t ≠ s.data.toList) (w : World) :
    Calls Tryz.prog 59 #[.string s] w fun e w' => e = .returned (.tuple #[.string ⟨#[]⟩, .int .i64 3]) ∧ Below w.heap.size w w' := by
  obtain ⟨i0, hi, hz0, hz1, hz2⟩ := info_parts info_u8
  have hl := size_list hy
  have hyl : y.length ≤ 1000000 := by simp at hl; omega
  have HY := Lib.hid hy; have HH := Lib.hid h; clear hy h hl
  go_enter Tryz.func59, Tryz.ntmps59
  go_wp2_with (first | (go_at_call 54; refine (cut_yes _ 34 (y ++ [34]) HY.out _).mono ?_; rintro e w' ⟨rfl, rfl⟩) | (go_at_call 69; refine (suf_yes _ 34 y (by simp) (by simp [Lib.size_eq]; omega) _).mono ?_; rintro e w' ⟨rfl, rfl⟩))
  go_loopw [4, 7] (fun r v wr => ∃ x text : List UInt8, r = .string ⟨x.toArray⟩ ∧ x.length ≤ y.length ∧ y = Wd.body text ++ x ∧ text.length ≤ 200 ∧ wr.ownsRow w.heap.size 5 1 v text.length (Lib.byteCells text) ∧ Below w.heap.size w wr) (fun r _ _ => strLen r)
  case atStart => exact ⟨y, [], rfl, Nat.le_refl _, rfl, by simp, World.ownsRow_nil _ _ _ _, Below.refl _ _⟩
  case round =>
    obtain ⟨x, text, rfl, hxy, hyx, htl, hown, hb⟩ := hrel
    have HX := Lib.hid hyx; clear hyx
    have hbs := hb.size
    by_cases hx0 : x = []
    · exfalso
      refine HH.out text htl ?_
      have := HX.out
      rw [hx0, List.append_nil] at this
      rw [HY.out, this]; rfl
    have hxe : x.isEmpty = false := by
      cases hc : x with
      | nil => exact absurd hc hx0
      | cons a r => rfl
    have hxp : 0 < x.length := List.length_pos_iff.2 hx0
    obtain ⟨a, cap, rfl⟩ := own_shape hown
    by_cases hq : ∃ c r, x = Wd.qb c ++ r
    · obtain ⟨c, r, hcr⟩ := hq
      have hql := Wd.qb_len c
      obtain ⟨m, hm⟩ : ∃ m, m = (Wd.qb c).length := ⟨_, rfl⟩
      have hxl : m + r.length = x.length := by rw [hcr, hm]; simp
      have hdrop : x.drop m = r := by rw [hcr, hm]; simp
      have hm1 : 1 ≤ m := by omega
      have hm3 : m ≤ 3 := by omega
      have hm0 : ((m : Int) == 0) = false := by rw [beq_eq_false_iff_ne]; omega
      have fq := fq_yes ⟨x.toArray⟩ c r (by simpa using hcr)
      rw [← hm] at fq
      have hy2 : y = Wd.body (text ++ [c]) ++ r := by rw [HX.out, hcr, Wd.body_append]; simp [Wd.body]
      have hcells : Lib.byteCells (text ++ [c]) = Lib.byteCells text ++ [.int .u8 (c.toNat : Int)] := by simp [Lib.byteCells]
      have hxm : m ≤ x.length := by omega
      have hrx : r.length < x.length := by omega
      have FQ := Lib.hid fq; have HD := Lib.hid hdrop; have HC := Lib.hid hcells; have HY2 := Lib.hid hy2
      clear hm fq hdrop hcells hql hcr hy2 hx0 hxl
      by_cases hfull : text.length = 200
      · have hk2 : ((text.length : Int) == 200) = true := by rw [beq_iff_eq]; omega
        clear hfull
        go_wp2_with (go_at_call 70; refine (FQ.out _).mono ?_; rintro e w' ⟨rfl, rfl⟩)
        go_ret2
        exact ⟨rfl, hb⟩
      · have hk2 : ((text.length : Int) == 200) = false := by rw [beq_eq_false_iff_ne]; omega
        have htl2 : text.length < 200 := by omega
        clear hfull htl
        go_wp2_with (first | (go_at_call 70; refine (FQ.out _).mono ?_; rintro e w' ⟨rfl, rfl⟩) | (at_builtin; refine wpList_append_own _ rfl _ _ 25 rfl w.heap.size 5 i0 (.int .u8 0) 1 1 Tryz.underlying25 hi hz0 hz1 hz2 rfl (by decide) _ _ _ rfl (hown.alloc _) ⟨wr.heap.size, 0, none⟩ 1 1 [.int .u8 (c.toNat : Int)] rfl rfl ?c1 ?c2 ?c3 ?c4 ?c5 ?_))
        case c1 => exact cell_one_new _ _ _
        case c2 => intro u hu; simp at hu; subst hu; rfl
        case c3 => unfold maxLen; omega
        case c4 => omega
        case c5 => simp; omega
        intro v' w1 hown' hg _
        have hb2 := (hb.alloc hbs _).grown hg (by simp; omega) (fun k hk => (hown.lt k hk).1)
        go_wp2
        go_roundw
        case rel => exact ⟨r, text ++ [c], extract_string HD.out (by simp), by omega, HY2.out, by simp; omega, by rw [HC.out, show (text ++ [c]).length = text.length + 1 from by simp]; exact hown', hb2⟩
        case measure => simp [strLen, Lib.size_eq]; omega
    · have fq := fq_no ⟨x.toArray⟩ (by simpa [Lib.size_eq] using hxp) (by intro c r e; exact hq ⟨c, r, by simpa using e⟩)
      have FQ := Lib.hid fq
      clear fq hq hx0
      go_wp2_with (go_at_call 70; refine (FQ.out _).mono ?_; rintro e w' ⟨rfl, rfl⟩)
      go_ret2
      exact ⟨rfl, hb⟩

/-- WHERE s IS NO LITERAL OF A STRING OF AT MOST 200 BYTES. -/
theorem unq_no (s : ByteArray) (hs : s.size ≤ 1000000) (h : ∀ t, t.length ≤ 200 → Wd.quote t ≠ s.data.toList) (w : World) :
    Calls Tryz.prog 59 #[.string s] w fun e w' => e = .returned (.tuple #[.string ⟨#[]⟩, .int .i64 3]) ∧ Below w.heap.size w w' := by
  by_cases h1 : ∃ r, s.data.toList = 34 :: r
  · obtain ⟨r, hr⟩ := h1
    by_cases h2 : ∃ y, r = y ++ [34]
    · obtain ⟨y, rfl⟩ := h2
      exact unq_no3 s hs y hr h w
    · refine (unq_no2 s hs r hr (fun x e => h2 ⟨x, e⟩) w).mono ?_
      rintro e w' ⟨rfl, rfl⟩
      exact ⟨rfl, Below.refl _ _⟩
  · refine (unq_no1 s hs (by
      cases hd : s.data.toList with
      | nil => simp
      | cons a r => simp; rintro rfl; exact h1 ⟨r, hd⟩) w).mono ?_
    rintro e w' ⟨rfl, rfl⟩
    exact ⟨rfl, Below.refl _ _⟩
end Go.Proofs.YtideicoifinnoaaGreatDoor

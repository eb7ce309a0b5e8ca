/- Walks: firstQuoted. -/
import Derived.Test.YthiifacfkeibbaaDoorWalkB
import Derived.Test.YthiifacfkeibbaaDoorPureB
import Derived.Test.YthiifacfkeibbaaDoorShelf
namespace Go.Proofs.YthiifacfkeibbaaDoor
open Go Go.RowKit
open Go.Proofs

def HEX : ByteArray := { data := #[48, 49, 50, 51, 52, 53, 54, 55, 56, 57, 97, 98, 99, 100, 101, 102] }
/-- The place of a sign among the hexadecimal ones, or -1. -/
def hexIx (c : UInt8) : Int := Lib.indexByte Wd.hex c
theorem hexIx_spec : ∀ n : Fin 256, hexIx (UInt8.ofNat n.val) = -1 ∨ (0 ≤ hexIx (UInt8.ofNat n.val) ∧ hexIx (UInt8.ofNat n.val) < 16 ∧ Wd.hexAt (hexIx (UInt8.ofNat n.val)).toNat = UInt8.ofNat n.val) := by decide +kernel
theorem hexIx_cases (c : UInt8) : hexIx c = -1 ∨ ∃ k : Nat, k < 16 ∧ hexIx c = (k : Int) ∧ Wd.hexAt k = c := by
  have h := hexIx_spec ⟨c.toNat, c.toNat_lt⟩
  simp only [UInt8.ofNat_toNat] at h
  rcases h with h | ⟨h1, h2, h3⟩
  · exact Or.inl h
  · exact Or.inr ⟨(hexIx c).toNat, by omega, by omega, h3⟩
theorem hexIx_of : ∀ k : Fin 16, hexIx (Wd.hexAt k.val) = (k.val : Int) := by decide +kernel
theorem hexix_any (c : UInt8) (w : World) :
    Calls Tryd.prog 39 #[.string { data := #[48, 49, 50, 51, 52, 53, 54, 55, 56, 57, 97, 98, 99, 100, 101, 102] }, .int .u8 (c.toNat : Int)] w fun e w' => e = .returned (.int .i64 (hexIx c)) ∧ w = w' := by
  refine (Tryd.strings_IndexByte _ _ w).mono ?_
  rintro e w' ⟨rfl, rfl⟩
  refine ⟨?_, rfl⟩
  have e1 : ((c.toNat : Int)).toNat.toUInt8 = c := by simp
  rw [e1]; rfl

set_option maxHeartbeats 400000 in
theorem fq_plain (s : ByteArray) (h0 : 0 < s.size) (hp : Wd.plainI (s[0].toNat : Int) = true) (w : World) :
    Calls Tryd.prog 53 #[.string s] w fun e w' => e = .returned (.tuple #[.int .u8 (s[0].toNat : Int), .int .i64 1]) ∧ w = w' := by
  go_enter Tryd.func53, Tryd.ntmps53
  go_wp2_with (go_at_call 61; refine (plain_any _ _).mono ?_; rintro e w' ⟨rfl, rfl⟩)
  go_ret2
  exact ⟨rfl, rfl⟩

set_option maxHeartbeats 400000 in
theorem fq_other (s : ByteArray) (h0 : 0 < s.size) (hp : Wd.plainI (s[0].toNat : Int) = false) (h92 : ((s[0].toNat : Int) != 92) = true) (w : World) :
    Calls Tryd.prog 53 #[.string s] w fun e w' => e = .returned (.tuple #[.int .u8 0, .int .i64 0]) ∧ w = w' := by
  go_enter Tryd.func53, Tryd.ntmps53
  go_wp2_with (go_at_call 61; refine (plain_any _ _).mono ?_; rintro e w' ⟨rfl, rfl⟩)
  go_ret2
  exact ⟨rfl, rfl⟩

set_option maxHeartbeats 400000 in
theorem fq_short (s : ByteArray) (h0 : 0 < s.size) (hp : Wd.plainI (s[0].toNat : Int) = false) (h92 : ((s[0].toNat : Int) != 92) = false) (h3 : s.size < 3) (w : World) :
    Calls Tryd.prog 53 #[.string s] w fun e w' => e = .returned (.tuple #[.int .u8 0, .int .i64 0]) ∧ w = w' := by
  go_enter Tryd.func53, Tryd.ntmps53
  go_wp2_with (go_at_call 61; refine (plain_any _ _).mono ?_; rintro e w' ⟨rfl, rfl⟩)
  go_ret2
  exact ⟨rfl, rfl⟩

theorem bits_hex : ∀ a b : Fin 16, bits .or .i64 ((a.val : Int) * 16) (b.val : Int) % 256 = ((UInt8.ofNat (a.val * 16 + b.val)).toNat : Int) := by decide +kernel

set_option maxHeartbeats 400000 in
theorem fq_bad1 (s : ByteArray) (h3 : 3 ≤ s.size) (hp : Wd.plainI (s[0].toNat : Int) = false) (h92 : ((s[0].toNat : Int) != 92) = false) (h1 : hexIx s[1] = -1) (w : World) :
    Calls Tryd.prog 53 #[.string s] w fun e w' => e = .returned (.tuple #[.int .u8 0, .int .i64 0]) ∧ w = w' := by
  obtain ⟨i2, hi2⟩ : ∃ i2, hexIx s[2] = i2 := ⟨_, rfl⟩
  have c1 := hexix_any s[1]
  have c2 := hexix_any s[2]
  rw [h1] at c1; rw [hi2] at c2
  have C1 := Lib.hid c1; have C2 := Lib.hid c2
  clear c1 c2 h1 hi2
  go_enter Tryd.func53, Tryd.ntmps53
  go_wp2_with (go_at_call 61; refine (plain_any _ _).mono ?_; rintro e w' ⟨rfl, rfl⟩)
  refine (C1.out _).mono ?_; rintro e w' ⟨rfl, rfl⟩
  go_wp2_with fail
  refine (C2.out _).mono ?_; rintro e w' ⟨rfl, rfl⟩
  go_wp2_with fail
  go_ret2
  exact ⟨rfl, rfl⟩

set_option maxHeartbeats 400000 in
theorem fq_bad2 (s : ByteArray) (h3 : 3 ≤ s.size) (hp : Wd.plainI (s[0].toNat : Int) = false) (h92 : ((s[0].toNat : Int) != 92) = false) (k1 : Nat) (h1 : hexIx s[1] = (k1 : Int)) (h2 : hexIx s[2] = -1) (w : World) :
    Calls Tryd.prog 53 #[.string s] w fun e w' => e = .returned (.tuple #[.int .u8 0, .int .i64 0]) ∧ w = w' := by
  have c1 := hexix_any s[1]
  have c2 := hexix_any s[2]
  rw [h1] at c1; rw [h2] at c2
  have C1 := Lib.hid c1; have C2 := Lib.hid c2
  clear c1 c2 h1 h2
  go_enter Tryd.func53, Tryd.ntmps53
  go_wp2_with (go_at_call 61; refine (plain_any _ _).mono ?_; rintro e w' ⟨rfl, rfl⟩)
  refine (C1.out _).mono ?_; rintro e w' ⟨rfl, rfl⟩
  go_wp2_with fail
  refine (C2.out _).mono ?_; rintro e w' ⟨rfl, rfl⟩
  go_wp2_with fail
  go_ret2
  exact ⟨rfl, rfl⟩

set_option maxHeartbeats 400000 in
theorem fq_hex (s : ByteArray) (h3 : 3 ≤ s.size) (hp : Wd.plainI (s[0].toNat : Int) = false) (h92 : ((s[0].toNat : Int) != 92) = false) (k1 k2 : Nat) (b1 : k1 < 16) (b2 : k2 < 16) (h1 : hexIx s[1] = (k1 : Int)) (h2 : hexIx s[2] = (k2 : Int))
    (hq : Wd.plainI ((UInt8.ofNat (k1 * 16 + k2)).toNat : Int) = false) (w : World) :
    Calls Tryd.prog 53 #[.string s] w fun e w' => e = .returned (.tuple #[.int .u8 ((UInt8.ofNat (k1 * 16 + k2)).toNat : Int), .int .i64 3]) ∧ w = w' := by
  have c1 := hexix_any s[1]
  have c2 := hexix_any s[2]
  rw [h1] at c1; rw [h2] at c2
  have C1 := Lib.hid c1; have C2 := Lib.hid c2
  have hbit := bits_hex ⟨k1, b1⟩ ⟨k2, b2⟩
  simp only [] at hbit
  generalize (UInt8.ofNat (k1 * 16 + k2)) = cc at *
  clear c1 c2 h1 h2
  go_enter Tryd.func53, Tryd.ntmps53
  go_wp2_with (go_at_call 61; refine (plain_any _ _).mono ?_; rintro e w' ⟨rfl, rfl⟩)
  refine (C1.out _).mono ?_; rintro e w' ⟨rfl, rfl⟩
  go_wp2_with fail
  refine (C2.out _).mono ?_; rintro e w' ⟨rfl, rfl⟩
  go_wp2_with (go_at_call 61; refine (plain_any _ _).mono ?_; rintro e w' ⟨rfl, rfl⟩)
  go_ret2
  exact ⟨rfl, rfl⟩

set_option maxHeartbeats 400000 in
theorem fq_hexplain (s : ByteArray) (h3 : 3 ≤ s.size) (hp : Wd.plainI (s[0].toNat : Int) = false) (h92 : ((s[0].toNat : Int) != 92) = false) (k1 k2 : Nat) (b1 : k1 < 16) (b2 : k2 < 16) (h1 : hexIx s[1] = (k1 : Int)) (h2 : hexIx s[2] = (k2 : Int))
    (hq : Wd.plainI ((UInt8.ofNat (k1 * 16 + k2)).toNat : Int) = true) (w : World) :
    Calls Tryd.prog 53 #[.string s] w fun e w' => e = .returned (.tuple #[.int .u8 0, .int .i64 0]) ∧ w = w' := by
  have c1 := hexix_any s[1]
  have c2 := hexix_any s[2]
  rw [h1] at c1; rw [h2] at c2
  have C1 := Lib.hid c1; have C2 := Lib.hid c2
  have hbit := bits_hex ⟨k1, b1⟩ ⟨k2, b2⟩
  simp only [] at hbit
  generalize (UInt8.ofNat (k1 * 16 + k2)) = cc at *
  clear c1 c2 h1 h2
  go_enter Tryd.func53, Tryd.ntmps53
  go_wp2_with (go_at_call 61; refine (plain_any _ _).mono ?_; rintro e w' ⟨rfl, rfl⟩)
  refine (C1.out _).mono ?_; rintro e w' ⟨rfl, rfl⟩
  go_wp2_with fail
  refine (C2.out _).mono ?_; rintro e w' ⟨rfl, rfl⟩
  go_wp2_with (go_at_call 61; refine (plain_any _ _).mono ?_; rintro e w' ⟨rfl, rfl⟩)
  go_ret2
  exact ⟨rfl, rfl⟩

theorem at_list {s : ByteArray} {l : List UInt8} (h : s.data.toList = l) (k : Nat) (hk : k < s.size) : l[k]? = some s[k] := by
  subst h
  rw [List.getElem?_eq_getElem (by simpa using hk)]; rfl
theorem size_list {s : ByteArray} {l : List UInt8} (h : s.data.toList = l) : s.size = l.length := by
  subst h; simp
theorem ret_tuple2 {a b c d : Value} (h1 : a = c) (h2 : b = d) : Ending.returned (.tuple #[a, b]) = .returned (.tuple #[c, d]) := by rw [h1, h2]

/-- WHERE s BEGINS WITH WHAT STANDS FOR A BYTE: the byte, and its length. -/
theorem fq_yes (s : ByteArray) (c : UInt8) (r : List UInt8) (h : s.data.toList = Wd.qb c ++ r) (w : World) :
    Calls Tryd.prog 53 #[.string s] w fun e w' => e = .returned (.tuple #[.int .u8 (c.toNat : Int), .int .i64 ((Wd.qb c).length : Int)]) ∧ w = w' := by
  have hsz := size_list h
  cases hc : Wd.plain c
  · rw [Wd.qb_hex hc] at h hsz
    rw [Wd.qb_hex hc]
    simp only [List.length_append, List.length_cons, List.length_nil] at hsz
    have hlt := c.toNat_lt
    have e0 := at_list h 0 (by omega)
    have e1 := at_list h 1 (by omega)
    have e2 := at_list h 2 (by omega)
    simp only [List.cons_append, List.getElem?_cons_zero, List.getElem?_cons_succ, Option.some.injEq] at e0 e1 e2
    have hk1 := hexIx_of ⟨c.toNat / 16, by omega⟩
    have hk2 := hexIx_of ⟨c.toNat % 16, by omega⟩
    simp only [] at hk1 hk2
    have hcc : UInt8.ofNat (c.toNat / 16 * 16 + c.toNat % 16) = c := by
      rw [show c.toNat / 16 * 16 + c.toNat % 16 = c.toNat from by omega]; simp
    refine (fq_hex s (by omega) (by rw [← e0]; decide) (by rw [← e0]; decide) (c.toNat / 16) (c.toNat % 16) (by omega) (by omega) (by rw [← e1]; exact hk1) (by rw [← e2]; exact hk2) (by rw [hcc]; exact hc) w).mono ?_
    rintro e w' ⟨rfl, rfl⟩
    rw [hcc]
    exact ⟨rfl, rfl⟩
  · rw [Wd.qb_plain hc] at h hsz
    rw [Wd.qb_plain hc]
    simp only [List.length_append, List.length_cons, List.length_nil] at hsz
    have e0 := at_list h 0 (by omega)
    simp only [List.cons_append, List.getElem?_cons_zero, Option.some.injEq] at e0
    refine (fq_plain s (by omega) (by rw [← e0]; exact hc) w).mono ?_
    rintro e w' ⟨rfl, rfl⟩
    exact ⟨ret_tuple2 (by rw [← e0]) rfl, rfl⟩

/-- WHERE IT DOES NOT: 0 and 0. -/
theorem fq_no (s : ByteArray) (h0 : 0 < s.size) (h : ∀ c r, s.data.toList ≠ Wd.qb c ++ r) (w : World) :
    Calls Tryd.prog 53 #[.string s] w fun e w' => e = .returned (.tuple #[.int .u8 0, .int .i64 0]) ∧ w = w' := by
  have hl : s.data.toList.length = s.size := by simp
  have hd : s.data.toList = s[0] :: s.data.toList.drop 1 := by
    exact List.drop_eq_getElem_cons (l := s.data.toList) (i := 0) (by omega)
  cases hp : Wd.plainI (s[0].toNat : Int)
  · by_cases h92 : s[0] = 92
    · have hb : ((s[0].toNat : Int) != 92) = false := by rw [h92]; decide
      by_cases h3 : 3 ≤ s.size
      · rcases hexIx_cases s[1] with h1 | ⟨k1, b1, h1, e1⟩
        · exact fq_bad1 s h3 hp hb h1 w
        · rcases hexIx_cases s[2] with h2 | ⟨k2, b2, h2, e2⟩
          · exact fq_bad2 s h3 hp hb k1 h1 h2 w
          · cases hq : Wd.plainI ((UInt8.ofNat (k1 * 16 + k2)).toNat : Int)
            · exfalso
              refine h (UInt8.ofNat (k1 * 16 + k2)) (s.data.toList.drop 3) ?_
              have en : (UInt8.ofNat (k1 * 16 + k2)).toNat = k1 * 16 + k2 := by rw [UInt8.toNat_ofNat']; omega
              rw [Wd.qb_hex (show Wd.plain _ = false from hq), en, show (k1 * 16 + k2) / 16 = k1 from by omega, show (k1 * 16 + k2) % 16 = k2 from by omega, e1, e2]
              have d1 := List.drop_eq_getElem_cons (l := s.data.toList) (i := 1) (by omega)
              have d2 := List.drop_eq_getElem_cons (l := s.data.toList) (i := 2) (by omega)
              rw [hd, d1, d2, h92]; rfl
            · exact fq_hexplain s h3 hp hb k1 k2 b1 b2 h1 h2 hq w
      · exact fq_short s h0 hp hb (by omega) w
    · have hb : ((s[0].toNat : Int) != 92) = true := by
        rw [bne_iff_ne]
        intro e
        exact h92 (UInt8.toNat_inj.1 (by have : (92 : UInt8).toNat = 92 := rfl; omega))
      exact fq_other s h0 hp hb w
  · exact absurd (by rw [Wd.qb_plain (show Wd.plain s[0] = true from hp)]; exact hd) (h s[0] (s.data.toList.drop 1))
end Go.Proofs.YthiifacfkeibbaaDoor

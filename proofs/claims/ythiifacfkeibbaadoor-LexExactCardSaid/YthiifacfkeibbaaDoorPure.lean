/- PLAIN FUNCTIONS ON LISTS OF BYTES: what package word answers. No program in this text. -/
import Derived.Lib.ParseIntB
import Derived.Lib.ItoaNum
namespace Go.Proofs.YthiifacfkeibbaaDoor.Wd
open Go

/-- The key words. -/
def keys : List (List UInt8) := [
  [108, 101, 116], [114, 101, 99], [105, 110], [102, 117, 110], [105, 102], [116, 104, 101, 110], [101, 108, 115, 101], [109, 97, 116, 99, 104],
  [119, 105, 116, 104], [101, 110, 100], [116, 114, 117, 101], [102, 97, 108, 115, 101], [105, 110, 116], [98, 111, 111, 108],
  [115, 116, 114, 105, 110, 103], [117, 110, 105, 116], [108, 105, 115, 116]]
def key (l : List UInt8) : Bool := keys.contains l
/-- A letter from a to z, on the byte's number. -/
def lowI (c : Int) : Bool := decide (97 ≤ c) && decide (c ≤ 122)
def partI (c : Int) : Bool := lowI c || (decide (65 ≤ c) && decide (c ≤ 90)) || (decide (48 ≤ c) && decide (c ≤ 57)) || c == 95 || c == 39
def low (c : UInt8) : Bool := lowI c.toNat
def part (c : UInt8) : Bool := partI c.toNat
/-- A right name. -/
def name (l : List UInt8) : Bool := match l with
  | [] => false
  | c :: r => decide (l.length ≤ 32) && low c && r.all part && !key l

theorem name_of (l : List UInt8) (h : 0 < l.length) : name l = (decide (l.length ≤ 32) && low l[0] && (l.drop 1).all part && !key l) := by
  cases l with
  | nil => simp at h
  | cons c r => simp [name]
theorem drop1_snoc (l : List UInt8) (k : Nat) (h1 : 1 ≤ k) (h : k < l.length) (f : UInt8 → Bool) : ((l.take (k + 1)).drop 1).all f = (((l.take k).drop 1).all f && f l[k]) := by
  have e : (l.take (k + 1)).drop 1 = (l.take k).drop 1 ++ [l[k]] := by
    rw [List.take_succ_eq_append_getElem h, List.drop_append_of_le_length (by simp; omega)]
  rw [e, List.all_append]; simp
theorem all_no (l : List UInt8) (k : Nat) (h1 : 1 ≤ k) (h : k < l.length) (f : UInt8 → Bool) (hf : f l[k] = false) : (l.drop 1).all f = false := by
  rw [List.all_eq_false]
  refine ⟨l[k], ?_, by simp [hf]⟩
  rw [List.mem_iff_getElem]
  exact ⟨k - 1, by simp; omega, by simp [Nat.sub_add_cancel h1]⟩
theorem start_all (l : List UInt8) (f : UInt8 → Bool) : ((l.take 1).drop 1).all f = true := by
  cases l <;> simp

/-! ### Literals -/
def plainI (c : Int) : Bool := decide (32 ≤ c) && decide (c ≤ 126) && (c != 34) && (c != 92)
def plain (c : UInt8) : Bool := plainI c.toNat
def hex : List UInt8 := [48, 49, 50, 51, 52, 53, 54, 55, 56, 57, 97, 98, 99, 100, 101, 102]
def hexAt (n : Nat) : UInt8 := hex.getD n 0
/-- What stands for one byte within a literal. -/
def qb (c : UInt8) : List UInt8 := if plain c then [c] else [92, hexAt (c.toNat / 16), hexAt (c.toNat % 16)]
def body (l : List UInt8) : List UInt8 := l.flatMap qb
def quote (l : List UInt8) : List UInt8 := 34 :: body l ++ [34]
/-- The literal of the first bytes, without the last sign. -/
def qpre (l : List UInt8) (k : Nat) : List UInt8 := 34 :: body (l.take k)
theorem qb_len (c : UInt8) : 1 ≤ (qb c).length ∧ (qb c).length ≤ 3 := by unfold qb; split <;> simp
theorem body_len (l : List UInt8) : l.length ≤ (body l).length ∧ (body l).length ≤ 3 * l.length := by
  induction l with
  | nil => simp [body]
  | cons c r ih =>
    have h := qb_len c
    have e : body (c :: r) = qb c ++ body r := by simp [body]
    rw [e, List.length_append, List.length_cons]; omega
theorem qpre_succ (l : List UInt8) (k : Nat) (h : k < l.length) : qpre l (k + 1) = qpre l k ++ qb l[k] := by
  unfold qpre body
  rw [List.take_succ_eq_append_getElem h, List.flatMap_append]; simp
theorem qpre_len (l : List UInt8) (k : Nat) : (qpre l k).length ≤ 1 + 3 * l.length := by
  have h := (body_len (l.take k)).2
  have h2 := List.length_take_le k l
  have h3 : (l.take k).length ≤ l.length := by simp; omega
  simp only [qpre, List.length_cons]; omega
theorem qpre_all (l : List UInt8) (k : Nat) (h : l.length ≤ k) : qpre l k ++ [34] = quote l := by
  unfold qpre quote; rw [List.take_of_length_le h]
end Go.Proofs.YthiifacfkeibbaaDoor.Wd

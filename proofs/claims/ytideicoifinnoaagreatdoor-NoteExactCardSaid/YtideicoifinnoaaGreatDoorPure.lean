/- PLAIN FUNCTIONS ON LISTS OF BYTES: what package word answers. No program in this text. PLAIN FACTS: literals are read back in one way; numbers' texts. No program in this text. PLAIN FACTS: which digits are a number's text. No program in this text. -/
import Derived.Lib.ParseIntB
import Derived.Lib.ItoaNum
import Derived.Lib.ParseIntBTie
import Derived.Lib.Strings
namespace Go.Proofs.YtideicoifinnoaaGreatDoor.Wd
open Go

/-- The key words. -/
def keys : List (List UInt8) := [
  [108, 101, 116], [114, 101, 99], [105, 110], [102, 117, 110], [105, 102], [116, 104, 101, 110], [101, 108, 115, 101], [109, 97, 116, 99, 104],
  [119, 105, 116, 104], [101, 110, 100], [116, 114, 117, 101], [102, 97, 108, 115, 101], [105, 110, 116], [98, 111, 111, 108],
  [115, 116, 114, 105, 110, 103], [117, 110, 105, 116], [108, 105, 115, 116]]
def key (l : List UInt8) : Bool := keys.contains l
/-- A letter from a to z, on the byte's number. -/
def lowI (c : Int) : Bool := decide (97 ≤ c) && decide (c ≤ 122)
def partI (c : Int) : Bool := lowI c || (decide (65 ≤ c) && decide (c ≤ 90)) || (decide (48 ≤ c) && decide (c ≤ 57)) || c == 95 || c == 39
def low (c : UInt8) : Bool := lowI c.toNat
def part (c : UInt8) : Bool := partI c.toNat
/-- A right name. -/
def name (l : List UInt8) : Bool := match l with
  | [] => false
  | c :: r => decide (l.length ≤ 32) && low c && r.all part && !key l

theorem name_of (l : List UInt8) (h : 0 < l.length) : name l = (decide (l.length ≤ 32) && low l[0] && (l.drop 1).all part && !key l) := by
  cases l with
  | nil => simp at h
  | cons c r => simp [name]
theorem drop1_snoc (l : List UInt8) (k : Nat) (h1 : 1 ≤ k) (h : k < l.length) (f : UInt8 → Bool) : ((l.take (k + 1)).drop 1).all f = (((l.take k).drop 1).all f && f l[k]) := by
  have e : (l.take (k + 1)).drop 1 = (l.take k).drop 1 ++ [l[k]] := by
    rw [List.take_succ_eq_append_getElem h, List.drop_append_of_le_length (by simp; omega)]
  rw [e, List.all_append]; simp
theorem all_no (l : List UInt8) (k : Nat) (h1 : 1 ≤ k) (h : k < l.length) (f : UInt8 → Bool) (hf : f l[k] = false) : (l.drop 1).all f = false := by
  rw [List.all_eq_false]
  refine ⟨l[k], ?_, by simp [hf]⟩
  rw [List.mem_iff_getElem]
  exact ⟨k - 1, by simp; omega, by simp [Nat.sub_add_cancel h1]⟩
theorem start_all (l : List UInt8) (f : UInt8 → Bool) : ((l.take 1).drop 1).all f = true := by
  cases l <;> simp

/-! ### Literals -/
def plainI (c : Int) : Bool := decide (32 ≤ c) && decide (c ≤ 126) && (c != 34) && (c != 92)
def plain (c : UInt8) : Bool := plainI c.toNat
def hex : List UInt8 := [48, 49, 50, 51, 52, 53, 54, 55, 56, 57, 97, 98, 99, 100, 101, 102]
def hexAt (n : Nat) : UInt8 := hex.getD n 0
/-- What stands for one byte within a literal. -/
def qb (c : UInt8) : List UInt8 := if plain c then [c] else [92, hexAt (c.toNat / 16), hexAt (c.toNat % 16)]
def body (l : List UInt8) : List UInt8 := l.flatMap qb
def quote (l : List UInt8) : List UInt8 := 34 :: body l ++ [34]
/-- The literal of the first bytes, without the last sign. -/
def qpre (l : List UInt8) (k : Nat) : List UInt8 := 34 :: body (l.take k)
theorem qb_len (c : UInt8) : 1 ≤ (qb c).length ∧ (qb c).length ≤ 3 := by unfold qb; split <;> simp
theorem body_len (l : List UInt8) : l.length ≤ (body l).length ∧ (body l).length ≤ 3 * l.length := by
  induction l with
  | nil => simp [body]
  | cons c r ih =>
    have h := qb_len c
    have e : body (c :: r) = qb c ++ body r := by simp [body]
    rw [e, List.length_append, List.length_cons]; omega
theorem qpre_succ (l : List UInt8) (k : Nat) (h : k < l.length) : qpre l (k + 1) = qpre l k ++ qb l[k] := by
  unfold qpre body
  rw [List.take_succ_eq_append_getElem h, List.flatMap_append]; simp
theorem qpre_len (l : List UInt8) (k : Nat) : (qpre l k).length ≤ 1 + 3 * l.length := by
  have h := (body_len (l.take k)).2
  have h2 := List.length_take_le k l
  have h3 : (l.take k).length ≤ l.length := by simp; omega
  simp only [qpre, List.length_cons]; omega
theorem qpre_all (l : List UInt8) (k : Nat) (h : l.length ≤ k) : qpre l k ++ [34] = quote l := by
  unfold qpre quote; rw [List.take_of_length_le h]
end Go.Proofs.YtideicoifinnoaaGreatDoor.Wd
namespace Go.Proofs.YtideicoifinnoaaGreatDoor.Wd
open Go

theorem hexAt_inj : ∀ a b : Fin 16, hexAt a.val = hexAt b.val → a = b := by decide +kernel
theorem qb_plain {c : UInt8} (h : plain c = true) : qb c = [c] := by simp [qb, h]
theorem qb_hex {c : UInt8} (h : plain c = false) : qb c = [92, hexAt (c.toNat / 16), hexAt (c.toNat % 16)] := by simp [qb, h]
theorem plain92 : plain 92 = false := by decide
theorem byte_of_hex (c d : UInt8) (h1 : hexAt (c.toNat / 16) = hexAt (d.toNat / 16)) (h2 : hexAt (c.toNat % 16) = hexAt (d.toNat % 16)) : c = d := by
  have hc := c.toNat_lt; have hd := d.toNat_lt
  have e1 := hexAt_inj ⟨c.toNat / 16, by omega⟩ ⟨d.toNat / 16, by omega⟩ h1
  have e2 := hexAt_inj ⟨c.toNat % 16, by omega⟩ ⟨d.toNat % 16, by omega⟩ h2
  simp only [Fin.mk.injEq] at e1 e2
  exact UInt8.toNat_inj.1 (by omega)
/-- What stands for a byte is read in one way. -/
theorem qb_unique (c d : UInt8) (x y : List UInt8) (h : qb c ++ x = qb d ++ y) : c = d ∧ x = y := by
  cases hc : plain c <;> cases hd : plain d
  · rw [qb_hex hc, qb_hex hd] at h
    simp only [List.cons_append, List.nil_append, List.cons.injEq] at h
    exact ⟨byte_of_hex c d h.2.1 h.2.2.1, h.2.2.2⟩
  · rw [qb_hex hc, qb_plain hd] at h
    simp only [List.cons_append, List.nil_append, List.cons.injEq] at h
    rw [← h.1, plain92] at hd; cases hd
  · rw [qb_plain hc, qb_hex hd] at h
    simp only [List.cons_append, List.nil_append, List.cons.injEq] at h
    rw [h.1, plain92] at hc; cases hc
  · rw [qb_plain hc, qb_plain hd] at h
    simp only [List.cons_append, List.nil_append, List.cons.injEq] at h
    exact h
theorem body_cons (c : UInt8) (r : List UInt8) : body (c :: r) = qb c ++ body r := by simp [body]
theorem body_append (a b : List UInt8) : body (a ++ b) = body a ++ body b := by simp [body]
theorem body_nil_iff (l : List UInt8) : body l = [] ↔ l = [] := by
  constructor
  · intro h
    have := (body_len l).1
    rw [h] at this
    exact List.eq_nil_of_length_eq_zero (by simpa using this)
  · rintro rfl; rfl
theorem body_inj : ∀ a b : List UInt8, body a = body b → a = b
  | [], b, h => ((body_nil_iff b).1 h.symm).symm
  | c :: r, [], h => (body_nil_iff _).1 h
  | c :: r, d :: q, h => by
    rw [body_cons, body_cons] at h
    obtain ⟨rfl, h2⟩ := qb_unique c d _ _ h
    rw [body_inj r q h2]
theorem quote_inj (a b : List UInt8) (h : quote a = quote b) : a = b := by
  unfold quote at h
  simp only [List.cons_append, List.cons.injEq, true_and] at h
  exact body_inj a b (List.append_cancel_right h)

/-! ### Numbers -/
def num (n : Int) : List UInt8 := if n < 0 then 126 :: Lib.decDigits n.natAbs else Lib.decDigits n.toNat
def inI64 (n : Int) : Prop := -9223372036854775808 ≤ n ∧ n ≤ 9223372036854775807
theorem dec_digit : ∀ (u : Nat) (c : UInt8), c ∈ Lib.decDigits u → 48 ≤ c.toNat ∧ c.toNat ≤ 57 := by
  intro u
  induction u using Nat.strongRecOn with
  | _ u ih =>
    intro c hc
    rw [Lib.decDigits] at hc
    split at hc
    · simp only [List.mem_singleton] at hc; subst hc
      rw [UInt8.toNat_ofNat']; omega
    · rcases List.mem_append.1 hc with h | h
      · exact ih _ (by omega) c h
      · simp only [List.mem_singleton] at h; subst h
        rw [UInt8.toNat_ofNat']; omega
theorem dec_ne (u : Nat) : Lib.decDigits u ≠ [] := by
  have := Lib.decDigits_length u
  have h := Lib.nDigits_pos u
  intro e; rw [e] at this; simp at this; omega
theorem parseM_append (M : Nat) : ∀ (l r : List UInt8) (acc a : Nat), Lib.parseUintM M acc l = .ok a → Lib.parseUintM M acc (l ++ r) = Lib.parseUintM M a r
  | [], r, acc, a, h => by
    simp only [Lib.parseUintM, Lib.NumEnd.ok.injEq] at h
    subst h; rfl
  | c :: l, r, acc, a, h => by
    simp only [Lib.parseUintM] at h
    simp only [List.cons_append, Lib.parseUintM]
    split
    · rename_i h1
      rw [if_pos h1] at h
      split
      · rename_i h2; rw [if_pos h2] at h; cases h
      · rename_i h2
        rw [if_neg h2] at h
        split
        · rename_i h3; rw [if_pos h3] at h; cases h
        · rename_i h3
          rw [if_neg h3] at h
          exact parseM_append M l r _ a h
    · rename_i h1; rw [if_neg h1] at h; cases h
theorem parseM_dec (M : Nat) (hM : M ≤ 18446744073709551615) : ∀ u : Nat, u ≤ M → Lib.parseUintM M 0 (Lib.decDigits u) = .ok u := by
  intro u
  induction u using Nat.strongRecOn with
  | _ u ih =>
    intro hu
    rw [Lib.decDigits]
    split
    · rename_i h
      simp only [Lib.parseUintM]
      have e : (UInt8.ofNat (48 + u)).toNat = 48 + u := by rw [UInt8.toNat_ofNat']; omega
      rw [if_pos (by rw [e]; omega), if_neg (by omega), if_neg (by rw [e]; omega), e]
      congr 1; omega
    · rename_i h
      rw [parseM_append M _ _ 0 (u / 10) (ih (u / 10) (by omega) (by omega))]
      simp only [Lib.parseUintM]
      have e : (UInt8.ofNat (48 + u % 10)).toNat = 48 + u % 10 := by rw [UInt8.toNat_ofNat']; omega
      rw [if_pos (by rw [e]; omega), if_neg (by omega), if_neg (by rw [e]; omega), e]
      congr 1; omega
theorem parse_itoa (n : Int) (h : inI64 n) : Lib.parseIntB 64 (Lib.itoa n) = .ok n := by
  obtain ⟨h1, h2⟩ := h
  have hp : (2 : Nat) ^ 64 - 1 = 18446744073709551615 := by decide
  have hp2 : (2 : Nat) ^ (64 - 1) = 9223372036854775808 := by decide
  unfold Lib.itoa
  split
  · rename_i hn
    have hb : Lib.parseUintB 64 (Lib.decDigits n.natAbs) = .ok n.natAbs := by
      unfold Lib.parseUintB
      rw [if_neg (dec_ne _)]
      exact parseM_dec _ (by rw [hp]; exact Nat.le_refl _) _ (by rw [hp]; omega)
    simp only [Lib.parseIntB]
    rw [if_pos (Or.inr (by rfl)), hb]
    simp only [hp2]
    rw [if_neg (by intro ⟨hx, _⟩; exact hx rfl), if_neg (by intro ⟨_, hx⟩; omega), if_pos (by rfl)]
    congr 1; omega
  · rename_i hn
    have hb : Lib.parseUintB 64 (Lib.decDigits n.toNat) = .ok n.toNat := by
      unfold Lib.parseUintB
      rw [if_neg (dec_ne _)]
      exact parseM_dec _ (by rw [hp]; exact Nat.le_refl _) _ (by rw [hp]; omega)
    cases hd : Lib.decDigits n.toNat with
    | nil => exact absurd hd (dec_ne _)
    | cons c r =>
      have hc := dec_digit n.toNat c (by rw [hd]; simp)
      simp only [Lib.parseIntB]
      rw [if_neg (by omega), ← hd, hb]
      simp only [hp2]
      rw [if_neg (by intro ⟨_, hx⟩; omega), if_neg (by intro ⟨hx, _⟩; omega), if_neg (by omega)]
      congr 1; omega
theorem num_neg {n : Int} (h : n < 0) : num n = 126 :: Lib.decDigits n.natAbs ∧ Lib.itoa n = 45 :: Lib.decDigits n.natAbs := by
  unfold num Lib.itoa; rw [if_pos h, if_pos h]; exact ⟨rfl, rfl⟩
theorem num_pos {n : Int} (h : ¬ n < 0) : num n = Lib.decDigits n.toNat ∧ Lib.itoa n = Lib.decDigits n.toNat := by
  unfold num Lib.itoa; rw [if_neg h, if_neg h]; exact ⟨rfl, rfl⟩
theorem dec_head (u : Nat) : ∃ c r, Lib.decDigits u = c :: r ∧ 48 ≤ c.toNat ∧ c.toNat ≤ 57 := by
  cases hd : Lib.decDigits u with
  | nil => exact absurd hd (dec_ne _)
  | cons c r => exact ⟨c, r, rfl, dec_digit u c (by rw [hd]; simp)⟩
/-- Numbers with one text are one number. -/
theorem num_inj (a b : Int) (ha : inI64 a) (hb : inI64 b) (h : num a = num b) : a = b := by
  have key : Lib.itoa a = Lib.itoa b := by
    by_cases h1 : a < 0 <;> by_cases h2 : b < 0
    · rw [(num_neg h1).1, (num_neg h2).1] at h
      rw [(num_neg h1).2, (num_neg h2).2]
      simp only [List.cons.injEq, true_and] at h ⊢; exact h
    · rw [(num_neg h1).1, (num_pos h2).1] at h
      obtain ⟨c, r, e, hc1, hc2⟩ := dec_head b.toNat
      rw [e] at h; simp only [List.cons.injEq] at h
      rw [← h.1] at hc2; exact absurd hc2 (by decide)
    · rw [(num_pos h1).1, (num_neg h2).1] at h
      obtain ⟨c, r, e, hc1, hc2⟩ := dec_head a.toNat
      rw [e] at h; simp only [List.cons.injEq] at h
      rw [h.1] at hc2; exact absurd hc2 (by decide)
    · rw [(num_pos h1).2, (num_pos h2).2, ← (num_pos h1).1, ← (num_pos h2).1]; exact h
  have e1 := parse_itoa a ha
  rw [key, parse_itoa b hb] at e1
  injection e1 with e1; exact e1.symm
theorem end3 (e : Lib.NumEnd Int) : (∃ v, e = .ok v) ∨ e = Lib.parseIntB 64 [] ∨ e = .range := by
  cases e
  · exact Or.inl ⟨_, rfl⟩
  · exact Or.inr (Or.inl rfl)
  · exact Or.inr (Or.inr rfl)
theorem dec_len : ∀ (k u : Nat), u < 10 ^ (k + 1) → (Lib.decDigits u).length ≤ k + 1
  | 0, u, h => by rw [Lib.decDigits, dif_pos (by simpa using h)]; simp
  | k + 1, u, h => by
    rw [Lib.decDigits]
    split
    · simp
    · have := dec_len k (u / 10) (by rw [Nat.pow_succ] at h; omega)
      rw [List.length_append]; simp; omega
theorem dec_len20 (u : Nat) (h : u < 18446744073709551616) : (Lib.decDigits u).length ≤ 20 := dec_len 19 u (by have : (10 : Nat) ^ (19 + 1) = 100000000000000000000 := by decide
                                                                                                               omega)
theorem num_len (n : Int) (h : inI64 n) : (num n).length ≤ 21 := by
  obtain ⟨h1, h2⟩ := h
  unfold num
  split
  · have := dec_len20 n.natAbs (by omega); simp; omega
  · have := dec_len20 n.toNat (by omega); omega
theorem natAbs_lt (n : Int) (h : inI64 n) : n.natAbs < 18446744073709551616 := by
  obtain ⟨h1, h2⟩ := h; omega
end Go.Proofs.YtideicoifinnoaaGreatDoor.Wd
namespace Go.Proofs.YtideicoifinnoaaGreatDoor.Wd
open Go

/-- The number that digits spell. -/
def val (ds : List Nat) : Nat := ds.foldl (fun a d => 10 * a + d) 0
def digs (ds : List Nat) : List UInt8 := ds.map fun d => UInt8.ofNat (48 + d)
theorem snoc_ind {P : List Nat → Prop} (h0 : P []) (h1 : ∀ l a, P l → P (l ++ [a])) (l : List Nat) : P l := by
  have h : ∀ r : List Nat, P r.reverse := by
    intro r
    induction r with
    | nil => simpa using h0
    | cons a r ih => simpa using h1 _ a ih
  simpa using h l.reverse
theorem val_snoc (ds : List Nat) (d : Nat) : val (ds ++ [d]) = 10 * val ds + d := by simp [val]
theorem digs_snoc (ds : List Nat) (d : Nat) : digs (ds ++ [d]) = digs ds ++ [UInt8.ofNat (48 + d)] := by simp [digs]
theorem val_lt : ∀ (ds : List Nat), (∀ d ∈ ds, d < 10) → val ds < 10 ^ ds.length := by
  intro ds
  induction ds using snoc_ind with
  | h0 => intro _; simp [val]
  | h1 ds d ih =>
    intro h
    have h1 := ih (fun x hx => h x (by simp [hx]))
    have h2 := h d (by simp)
    rw [val_snoc, List.length_append, List.length_singleton, Nat.pow_succ]; omega
/-- Digits without a leading zero are the decimal text of what they spell. -/
theorem dec_val : ∀ (ds : List Nat), ds ≠ [] → (∀ d ∈ ds, d < 10) → (ds.head? ≠ some 0 ∨ ds.length = 1) → Lib.decDigits (val ds) = digs ds := by
  intro ds
  induction ds using snoc_ind with
  | h0 => intro h; exact absurd rfl h
  | h1 ds d ih =>
    intro _ hd hz
    have h2 := hd d (by simp)
    rw [val_snoc, digs_snoc]
    cases ds with
    | nil =>
      rw [Lib.decDigits, dif_pos (by simp [val]; exact h2)]; simp [val, digs]
    | cons c r =>
      have hz' : c ≠ 0 := by
        rcases hz with h | h
        · simpa using h
        · simp at h
      have ih' := ih (by simp) (fun x hx => hd x (by simp only [List.mem_append]; exact Or.inl hx)) (Or.inl (by simpa using hz'))
      have hpos : 0 < val (c :: r) := val_pos c r hz'
      rw [Lib.decDigits, dif_neg (by omega), show (10 * val (c :: r) + d) / 10 = val (c :: r) from by omega, show (10 * val (c :: r) + d) % 10 = d from by omega, ih']
where
  val_pos (c : Nat) (r : List Nat) (h : c ≠ 0) : 0 < val (c :: r) := by
    induction r using snoc_ind with
    | h0 => simp [val]; omega
    | h1 r d ih => rw [← List.cons_append, val_snoc]; omega
/-- The decimal digits of a number, as numbers. -/
theorem dec_digs : ∀ u : Nat, ∃ ds : List Nat, Lib.decDigits u = digs ds ∧ ds ≠ [] ∧ (∀ d ∈ ds, d < 10) ∧ val ds = u ∧ (ds.head? = some 0 → u = 0 ∧ ds.length = 1) := by
  intro u
  induction u using Nat.strongRecOn with
  | _ u ih =>
    rw [Lib.decDigits]
    split
    · rename_i h
      exact ⟨[u], by simp [digs], by simp, by simpa using h, by simp [val], fun h0 => ⟨by simpa using h0, rfl⟩⟩
    · rename_i h
      obtain ⟨ds, h1, h2, h3, h4, h5⟩ := ih (u / 10) (by omega)
      refine ⟨ds ++ [u % 10], by rw [h1, digs_snoc], by simp, ?_, by rw [val_snoc, h4]; omega, ?_⟩
      · intro d hd
        rcases List.mem_append.1 hd with hd | hd
        · exact h3 d hd
        · simp only [List.mem_singleton] at hd; omega
      · intro h0
        cases ds with
        | nil => exact absurd rfl h2
        | cons c r =>
          have := h5 (by simpa using h0)
          omega
theorem digs_inj : ∀ (a b : List Nat), (∀ d ∈ a, d < 10) → (∀ d ∈ b, d < 10) → digs a = digs b → a = b
  | [], [], _, _, _ => rfl
  | [], _ :: _, _, _, h => by simp [digs] at h
  | _ :: _, [], _, _, h => by simp [digs] at h
  | c :: r, d :: q, ha, hb, h => by
    simp only [digs, List.map_cons, List.cons.injEq] at h
    have hc := ha c (by simp); have hd := hb d (by simp)
    have e : c = d := by
      have := congrArg UInt8.toNat h.1
      rw [UInt8.toNat_ofNat', UInt8.toNat_ofNat'] at this; omega
    rw [e, digs_inj r q (fun x hx => ha x (by simp [hx])) (fun x hx => hb x (by simp [hx])) h.2]
def pre (ng : Bool) : List UInt8 := if ng then [126] else []
/-- Whether digits, with ~ or not, are a number's text. -/
def mayB (ds : List Nat) (ng : Bool) : Bool := decide (ds.length < 20) && (decide (ds.head? ≠ some 0) || (decide (ds.length = 1) && !ng)) && (decide (val ds ≤ 9223372036854775807) || (ng && decide (val ds = 9223372036854775808)))
theorem may_yes (ds : List Nat) (ng : Bool) (h0 : ds ≠ []) (hd : ∀ d ∈ ds, d < 10) (h : mayB ds ng = true) :
    inI64 (if ng then -(val ds : Int) else val ds) ∧ num (if ng then -(val ds : Int) else val ds) = pre ng ++ digs ds ∧ (ng = true → 0 < val ds) := by
  simp only [mayB, Bool.and_eq_true, Bool.or_eq_true, decide_eq_true_eq, Bool.not_eq_true'] at h
  obtain ⟨⟨hl, hz⟩, hv⟩ := h
  cases ng with
  | false =>
    have hv' : val ds ≤ 9223372036854775807 := by rcases hv with h | ⟨h, _⟩; exact h; cases h
    have hdec := dec_val ds h0 hd (by rcases hz with h | h; exact Or.inl h; exact Or.inr h.1)
    refine ⟨⟨by simp, by simp; omega⟩, ?_, by intro h; cases h⟩
    simp only [Bool.false_eq_true, if_false, pre, List.nil_append]
    unfold num
    rw [if_neg (by omega), Int.toNat_natCast, hdec]
  | true =>
    have hz' : ds.head? ≠ some 0 := by rcases hz with h | h; exact h; exact absurd h.2 (by decide)
    have hv' : val ds ≤ 9223372036854775808 := by rcases hv with h | ⟨_, h⟩ <;> omega
    have hdec := dec_val ds h0 hd (Or.inl hz')
    have hpos : 0 < val ds := by
      cases ds with
      | nil => exact absurd rfl h0
      | cons c r => exact dec_val.val_pos c r (by simpa using hz')
    refine ⟨⟨by simp; omega, by simp⟩, ?_, fun _ => hpos⟩
    simp only [if_true, pre, List.cons_append, List.nil_append]
    unfold num
    rw [if_pos (by omega), show (-(val ds : Int)).natAbs = val ds from by omega, hdec]
theorem may_no (ds : List Nat) (ng : Bool) (hd : ∀ d ∈ ds, d < 10) (h : mayB ds ng = false) (m : Int) (hm : inI64 m) : num m ≠ pre ng ++ digs ds := by
  intro e
  obtain ⟨h1, h2⟩ := hm
  have key : ∀ u : Nat, u ≤ 9223372036854775808 → Lib.decDigits u = digs ds → ds.length < 20 ∧ val ds = u ∧ (ds.head? = some 0 → u = 0 ∧ ds.length = 1) := by
    intro u hu0 hu
    obtain ⟨es, g1, g2, g3, g4, g5⟩ := dec_digs u
    have := digs_inj es ds g3 hd (by rw [← g1, hu])
    subst this
    refine ⟨?_, g4, g5⟩
    have h3 := dec_len 18 u (by have : (10 : Nat) ^ (18 + 1) = 10000000000000000000 := by decide
                                omega)
    rw [hu] at h3
    simp [digs] at h3; omega
  cases ng with
  | false =>
    simp only [pre, Bool.false_eq_true, if_false, List.nil_append] at e
    by_cases hn : m < 0
    · rw [(num_neg hn).1] at e
      cases ds with
      | nil => simp [digs] at e
      | cons d r =>
        simp only [digs, List.map_cons, List.cons.injEq] at e
        have h3 := congrArg UInt8.toNat e.1
        have h4 := hd d (by simp)
        rw [UInt8.toNat_ofNat'] at h3
        have h5 : (126 : UInt8).toNat = 126 := rfl
        omega
    · rw [(num_pos hn).1] at e
      obtain ⟨k1, k2, k3⟩ := key m.toNat (by omega) e
      have : mayB ds false = true := by
        simp only [mayB, Bool.and_eq_true, Bool.or_eq_true, decide_eq_true_eq]
        refine ⟨⟨k1, ?_⟩, Or.inl (by omega)⟩
        by_cases h0 : ds.head? = some 0
        · exact Or.inr ⟨(k3 h0).2, rfl⟩
        · exact Or.inl h0
      rw [this] at h; cases h
  | true =>
    simp only [pre, if_true, List.cons_append, List.nil_append] at e
    by_cases hn : m < 0
    · rw [(num_neg hn).1] at e
      simp only [List.cons.injEq, true_and] at e
      obtain ⟨k1, k2, k3⟩ := key m.natAbs (by omega) e
      have : mayB ds true = true := by
        simp only [mayB, Bool.and_eq_true, Bool.or_eq_true, decide_eq_true_eq]
        refine ⟨⟨k1, Or.inl ?_⟩, ?_⟩
        · intro h0; have := (k3 h0).1; omega
        · by_cases h9 : val ds ≤ 9223372036854775807
          · exact Or.inl h9
          · exact Or.inr ⟨by simp, by omega⟩
      rw [this] at h; cases h
    · rw [(num_pos hn).1] at e
      have h3 := dec_digit m.toNat 126 (by rw [e]; simp)
      exact absurd h3.2 (by decide)
end Go.Proofs.YtideicoifinnoaaGreatDoor.Wd

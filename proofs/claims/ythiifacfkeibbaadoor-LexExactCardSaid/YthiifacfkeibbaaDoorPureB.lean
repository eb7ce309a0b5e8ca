/- PLAIN FACTS: literals are read back in one way; numbers' texts. No program in this text. -/
import Derived.Test.YthiifacfkeibbaaDoorPure
import Derived.Lib.ParseIntBTie
import Derived.Lib.Strings
namespace Go.Proofs.YthiifacfkeibbaaDoor.Wd
open Go

theorem hexAt_inj : ∀ a b : Fin 16, hexAt a.val = hexAt b.val → a = b := by decide +kernel
theorem qb_plain {c : UInt8} (h : plain c = true) : qb c = [c] := by simp [qb, h]
theorem qb_hex {c : UInt8} (h : plain c = false) : qb c = [92, hexAt (c.toNat / 16), hexAt (c.toNat % 16)] := by simp [qb, h]
theorem plain92 : plain 92 = false := by decide
theorem byte_of_hex (c d : UInt8) (h1 : hexAt (c.toNat / 16) = hexAt (d.toNat / 16)) (h2 : hexAt (c.toNat % 16) = hexAt (d.toNat % 16)) : c = d := by
  have hc := c.toNat_lt; have hd := d.toNat_lt
  have e1 := hexAt_inj ⟨c.toNat / 16, by omega⟩ ⟨d.toNat / 16, by omega⟩ h1
  have e2 := hexAt_inj ⟨c.toNat % 16, by omega⟩ ⟨d.toNat % 16, by omega⟩ h2
  simp only [Fin.mk.injEq] at e1 e2
  exact UInt8.toNat_inj.1 (by omega)
/-- What stands for a byte is read in one way. -/
theorem qb_unique (c d : UInt8) (x y : List UInt8) (h : qb c ++ x = qb d ++ y) : c = d ∧ x = y := by
  cases hc : plain c <;> cases hd : plain d
  · rw [qb_hex hc, qb_hex hd] at h
    simp only [List.cons_append, List.nil_append, List.cons.injEq] at h
    exact ⟨byte_of_hex c d h.2.1 h.2.2.1, h.2.2.2⟩
  · rw [qb_hex hc, qb_plain hd] at h
    simp only [List.cons_append, List.nil_append, List.cons.injEq] at h
    rw [← h.1, plain92] at hd; cases hd
  · rw [qb_plain hc, qb_hex hd] at h
    simp only [List.cons_append, List.nil_append, List.cons.injEq] at h
    rw [h.1, plain92] at hc; cases hc
  · rw [qb_plain hc, qb_plain hd] at h
    simp only [List.cons_append, List.nil_append, List.cons.injEq] at h
    exact h
theorem body_cons (c : UInt8) (r : List UInt8) : body (c :: r) = qb c ++ body r := by simp [body]
theorem body_append (a b : List UInt8) : body (a ++ b) = body a ++ body b := by simp [body]
theorem body_nil_iff (l : List UInt8) : body l = [] ↔ l = [] := by
  constructor
  · intro h
    have := (body_len l).1
    rw [h] at this
    exact List.eq_nil_of_length_eq_zero (by simpa using this)
  · rintro rfl; rfl
theorem body_inj : ∀ a b : List UInt8, body a = body b → a = b
  | [], b, h => ((body_nil_iff b).1 h.symm).symm
  | c :: r, [], h => (body_nil_iff _).1 h
  | c :: r, d :: q, h => by
    rw [body_cons, body_cons] at h
    obtain ⟨rfl, h2⟩ := qb_unique c d _ _ h
    rw [body_inj r q h2]
theorem quote_inj (a b : List UInt8) (h : quote a = quote b) : a = b := by
  unfold quote at h
  simp only [List.cons_append, List.cons.injEq, true_and] at h
  exact body_inj a b (List.append_cancel_right h)

/-! ### Numbers -/
def num (n : Int) : List UInt8 := if n < 0 then 126 :: Lib.decDigits n.natAbs else Lib.decDigits n.toNat
def inI64 (n : Int) : Prop := -9223372036854775808 ≤ n ∧ n ≤ 9223372036854775807
theorem dec_digit : ∀ (u : Nat) (c : UInt8), c ∈ Lib.decDigits u → 48 ≤ c.toNat ∧ c.toNat ≤ 57 := by
  intro u
  induction u using Nat.strongRecOn with
  | _ u ih =>
    intro c hc
    rw [Lib.decDigits] at hc
    split at hc
    · simp only [List.mem_singleton] at hc; subst hc
      rw [UInt8.toNat_ofNat']; omega
    · rcases List.mem_append.1 hc with h | h
      · exact ih _ (by omega) c h
      · simp only [List.mem_singleton] at h; subst h
        rw [UInt8.toNat_ofNat']; omega
theorem dec_ne (u : Nat) : Lib.decDigits u ≠ [] := by
  have := Lib.decDigits_length u
  have h := Lib.nDigits_pos u
  intro e; rw [e] at this; simp at this; omega
theorem parseM_append (M : Nat) : ∀ (l r : List UInt8) (acc a : Nat), Lib.parseUintM M acc l = .ok a → Lib.parseUintM M acc (l ++ r) = Lib.parseUintM M a r
  | [], r, acc, a, h => by
    simp only [Lib.parseUintM, Lib.NumEnd.ok.injEq] at h
    subst h; rfl
  | c :: l, r, acc, a, h => by
    simp only [Lib.parseUintM] at h
    simp only [List.cons_append, Lib.parseUintM]
    split
    · rename_i h1
      rw [if_pos h1] at h
      split
      · rename_i h2; rw [if_pos h2] at h; cases h
      · rename_i h2
        rw [if_neg h2] at h
        split
        · rename_i h3; rw [if_pos h3] at h; cases h
        · rename_i h3
          rw [if_neg h3] at h
          exact parseM_append M l r _ a h
    · rename_i h1; rw [if_neg h1] at h; cases h
theorem parseM_dec (M : Nat) (hM : M ≤ 18446744073709551615) : ∀ u : Nat, u ≤ M → Lib.parseUintM M 0 (Lib.decDigits u) = .ok u := by
  intro u
  induction u using Nat.strongRecOn with
  | _ u ih =>
    intro hu
    rw [Lib.decDigits]
    split
    · rename_i h
      simp only [Lib.parseUintM]
      have e : (UInt8.ofNat (48 + u)).toNat = 48 + u := by rw [UInt8.toNat_ofNat']; omega
      rw [if_pos (by rw [e]; omega), if_neg (by omega), if_neg (by rw [e]; omega), e]
      congr 1; omega
    · rename_i h
      rw [parseM_append M _ _ 0 (u / 10) (ih (u / 10) (by omega) (by omega))]
      simp only [Lib.parseUintM]
      have e : (UInt8.ofNat (48 + u % 10)).toNat = 48 + u % 10 := by rw [UInt8.toNat_ofNat']; omega
      rw [if_pos (by rw [e]; omega), if_neg (by omega), if_neg (by rw [e]; omega), e]
      congr 1; omega
theorem parse_itoa (n : Int) (h : inI64 n) : Lib.parseIntB 64 (Lib.itoa n) = .ok n := by
  obtain ⟨h1, h2⟩ := h
  have hp : (2 : Nat) ^ 64 - 1 = 18446744073709551615 := by decide
  have hp2 : (2 : Nat) ^ (64 - 1) = 9223372036854775808 := by decide
  unfold Lib.itoa
  split
  · rename_i hn
    have hb : Lib.parseUintB 64 (Lib.decDigits n.natAbs) = .ok n.natAbs := by
      unfold Lib.parseUintB
      rw [if_neg (dec_ne _)]
      exact parseM_dec _ (by rw [hp]; exact Nat.le_refl _) _ (by rw [hp]; omega)
    simp only [Lib.parseIntB]
    rw [if_pos (Or.inr (by rfl)), hb]
    simp only [hp2]
    rw [if_neg (by intro ⟨hx, _⟩; exact hx rfl), if_neg (by intro ⟨_, hx⟩; omega), if_pos (by rfl)]
    congr 1; omega
  · rename_i hn
    have hb : Lib.parseUintB 64 (Lib.decDigits n.toNat) = .ok n.toNat := by
      unfold Lib.parseUintB
      rw [if_neg (dec_ne _)]
      exact parseM_dec _ (by rw [hp]; exact Nat.le_refl _) _ (by rw [hp]; omega)
    cases hd : Lib.decDigits n.toNat with
    | nil => exact absurd hd (dec_ne _)
    | cons c r =>
      have hc := dec_digit n.toNat c (by rw [hd]; simp)
      simp only [Lib.parseIntB]
      rw [if_neg (by omega), ← hd, hb]
      simp only [hp2]
      rw [if_neg (by intro ⟨_, hx⟩; omega), if_neg (by intro ⟨hx, _⟩; omega), if_neg (by omega)]
      congr 1; omega
theorem num_neg {n : Int} (h : n < 0) : num n = 126 :: Lib.decDigits n.natAbs ∧ Lib.itoa n = 45 :: Lib.decDigits n.natAbs := by
  unfold num Lib.itoa; rw [if_pos h, if_pos h]; exact ⟨rfl, rfl⟩
theorem num_pos {n : Int} (h : ¬ n < 0) : num n = Lib.decDigits n.toNat ∧ Lib.itoa n = Lib.decDigits n.toNat := by
  unfold num Lib.itoa; rw [if_neg h, if_neg h]; exact ⟨rfl, rfl⟩
theorem dec_head (u : Nat) : ∃ c r, Lib.decDigits u = c :: r ∧ 48 ≤ c.toNat ∧ c.toNat ≤ 57 := by
  cases hd : Lib.decDigits u with
  | nil => exact absurd hd (dec_ne _)
  | cons c r => exact ⟨c, r, rfl, dec_digit u c (by rw [hd]; simp)⟩
/-- Numbers with one text are one number. -/
theorem num_inj (a b : Int) (ha : inI64 a) (hb : inI64 b) (h : num a = num b) : a = b := by
  have key : Lib.itoa a = Lib.itoa b := by
    by_cases h1 : a < 0 <;> by_cases h2 : b < 0
    · rw [(num_neg h1).1, (num_neg h2).1] at h
      rw [(num_neg h1).2, (num_neg h2).2]
      simp only [List.cons.injEq, true_and] at h ⊢; exact h
    · rw [(num_neg h1).1, (num_pos h2).1] at h
      obtain ⟨c, r, e, hc1, hc2⟩ := dec_head b.toNat
      rw [e] at h; simp only [List.cons.injEq] at h
      rw [← h.1] at hc2; exact absurd hc2 (by decide)
    · rw [(num_pos h1).1, (num_neg h2).1] at h
      obtain ⟨c, r, e, hc1, hc2⟩ := dec_head a.toNat
      rw [e] at h; simp only [List.cons.injEq] at h
      rw [h.1] at hc2; exact absurd hc2 (by decide)
    · rw [(num_pos h1).2, (num_pos h2).2, ← (num_pos h1).1, ← (num_pos h2).1]; exact h
  have e1 := parse_itoa a ha
  rw [key, parse_itoa b hb] at e1
  injection e1 with e1; exact e1.symm
theorem end3 (e : Lib.NumEnd Int) : (∃ v, e = .ok v) ∨ e = Lib.parseIntB 64 [] ∨ e = .range := by
  cases e
  · exact Or.inl ⟨_, rfl⟩
  · exact Or.inr (Or.inl rfl)
  · exact Or.inr (Or.inr rfl)
theorem dec_len : ∀ (k u : Nat), u < 10 ^ (k + 1) → (Lib.decDigits u).length ≤ k + 1
  | 0, u, h => by rw [Lib.decDigits, dif_pos (by simpa using h)]; simp
  | k + 1, u, h => by
    rw [Lib.decDigits]
    split
    · simp
    · have := dec_len k (u / 10) (by rw [Nat.pow_succ] at h; omega)
      rw [List.length_append]; simp; omega
theorem dec_len20 (u : Nat) (h : u < 18446744073709551616) : (Lib.decDigits u).length ≤ 20 := dec_len 19 u (by have : (10 : Nat) ^ (19 + 1) = 100000000000000000000 := by decide
                                                                                                               omega)
theorem num_len (n : Int) (h : inI64 n) : (num n).length ≤ 21 := by
  obtain ⟨h1, h2⟩ := h
  unfold num
  split
  · have := dec_len20 n.natAbs (by omega); simp; omega
  · have := dec_len20 n.toNat (by omega); omega
theorem natAbs_lt (n : Int) (h : inI64 n) : n.natAbs < 18446744073709551616 := by
  obtain ⟨h1, h2⟩ := h; omega
end Go.Proofs.YthiifacfkeibbaaDoor.Wd

/- PLAIN FACTS: which digits are a number's text. No program in this text. -/
import Derived.Test.YthiifacfkeibbaaDoorPureB
namespace Go.Proofs.YthiifacfkeibbaaDoor.Wd
open Go

/-- The number that digits spell. -/
def val (ds : List Nat) : Nat := ds.foldl (fun a d => 10 * a + d) 0
def digs (ds : List Nat) : List UInt8 := ds.map fun d => UInt8.ofNat (48 + d)
theorem snoc_ind {P : List Nat → Prop} (h0 : P []) (h1 : ∀ l a, P l → P (l ++ [a])) (l : List Nat) : P l := by
  have h : ∀ r : List Nat, P r.reverse := by
    intro r
    induction r with
    | nil => simpa using h0
    | cons a r ih => simpa using h1 _ a ih
  simpa using h l.reverse
theorem val_snoc (ds : List Nat) (d : Nat) : val (ds ++ [d]) = 10 * val ds + d := by simp [val]
theorem digs_snoc (ds : List Nat) (d : Nat) : digs (ds ++ [d]) = digs ds ++ [UInt8.ofNat (48 + d)] := by simp [digs]
theorem val_lt : ∀ (ds : List Nat), (∀ d ∈ ds, d < 10) → val ds < 10 ^ ds.length := by
  intro ds
  induction ds using snoc_ind with
  | h0 => intro _; simp [val]
  | h1 ds d ih =>
    intro h
    have h1 := ih (fun x hx => h x (by simp [hx]))
    have h2 := h d (by simp)
    rw [val_snoc, List.length_append, List.length_singleton, Nat.pow_succ]; omega
/-- Digits without a leading zero are the decimal text of what they spell. -/
theorem dec_val : ∀ (ds : List Nat), ds ≠ [] → (∀ d ∈ ds, d < 10) → (ds.head? ≠ some 0 ∨ ds.length = 1) → Lib.decDigits (val ds) = digs ds := by
  intro ds
  induction ds using snoc_ind with
  | h0 => intro h; exact absurd rfl h
  | h1 ds d ih =>
    intro _ hd hz
    have h2 := hd d (by simp)
    rw [val_snoc, digs_snoc]
    cases ds with
    | nil =>
      rw [Lib.decDigits, dif_pos (by simp [val]; exact h2)]; simp [val, digs]
    | cons c r =>
      have hz' : c ≠ 0 := by
        rcases hz with h | h
        · simpa using h
        · simp at h
      have ih' := ih (by simp) (fun x hx => hd x (by simp only [List.mem_append]; exact Or.inl hx)) (Or.inl (by simpa using hz'))
      have hpos : 0 < val (c :: r) := val_pos c r hz'
      rw [Lib.decDigits, dif_neg (by omega), show (10 * val (c :: r) + d) / 10 = val (c :: r) from by omega, show (10 * val (c :: r) + d) % 10 = d from by omega, ih']
where
  val_pos (c : Nat) (r : List Nat) (h : c ≠ 0) : 0 < val (c :: r) := by
    induction r using snoc_ind with
    | h0 => simp [val]; omega
    | h1 r d ih => rw [← List.cons_append, val_snoc]; omega
/-- The decimal digits of a number, as numbers. -/
theorem dec_digs : ∀ u : Nat, ∃ ds : List Nat, Lib.decDigits u = digs ds ∧ ds ≠ [] ∧ (∀ d ∈ ds, d < 10) ∧ val ds = u ∧ (ds.head? = some 0 → u = 0 ∧ ds.length = 1) := by
  intro u
  induction u using Nat.strongRecOn with
  | _ u ih =>
    rw [Lib.decDigits]
    split
    · rename_i h
      exact ⟨[u], by simp [digs], by simp, by simpa using h, by simp [val], fun h0 => ⟨by simpa using h0, rfl⟩⟩
    · rename_i h
      obtain ⟨ds, h1, h2, h3, h4, h5⟩ := ih (u / 10) (by omega)
      refine ⟨ds ++ [u % 10], by rw [h1, digs_snoc], by simp, ?_, by rw [val_snoc, h4]; omega, ?_⟩
      · intro d hd
        rcases List.mem_append.1 hd with hd | hd
        · exact h3 d hd
        · simp only [List.mem_singleton] at hd; omega
      · intro h0
        cases ds with
        | nil => exact absurd rfl h2
        | cons c r =>
          have := h5 (by simpa using h0)
          omega
theorem digs_inj : ∀ (a b : List Nat), (∀ d ∈ a, d < 10) → (∀ d ∈ b, d < 10) → digs a = digs b → a = b
  | [], [], _, _, _ => rfl
  | [], _ :: _, _, _, h => by simp [digs] at h
  | _ :: _, [], _, _, h => by simp [digs] at h
  | c :: r, d :: q, ha, hb, h => by
    simp only [digs, List.map_cons, List.cons.injEq] at h
    have hc := ha c (by simp); have hd := hb d (by simp)
    have e : c = d := by
      have := congrArg UInt8.toNat h.1
      rw [UInt8.toNat_ofNat', UInt8.toNat_ofNat'] at this; omega
    rw [e, digs_inj r q (fun x hx => ha x (by simp [hx])) (fun x hx => hb x (by simp [hx])) h.2]
def pre (ng : Bool) : List UInt8 := if ng then [126] else []
/-- Whether digits, with ~ or not, are a number's text. -/
def mayB (ds : List Nat) (ng : Bool) : Bool := decide (ds.length < 20) && (decide (ds.head? ≠ some 0) || (decide (ds.length = 1) && !ng)) && (decide (val ds ≤ 9223372036854775807) || (ng && decide (val ds = 9223372036854775808)))
theorem may_yes (ds : List Nat) (ng : Bool) (h0 : ds ≠ []) (hd : ∀ d ∈ ds, d < 10) (h : mayB ds ng = true) :
    inI64 (if ng then -(val ds : Int) else val ds) ∧ num (if ng then -(val ds : Int) else val ds) = pre ng ++ digs ds ∧ (ng = true → 0 < val ds) := by
  simp only [mayB, Bool.and_eq_true, Bool.or_eq_true, decide_eq_true_eq, Bool.not_eq_true'] at h
  obtain ⟨⟨hl, hz⟩, hv⟩ := h
  cases ng with
  | false =>
    have hv' : val ds ≤ 9223372036854775807 := by rcases hv with h | ⟨h, _⟩; exact h; cases h
    have hdec := dec_val ds h0 hd (by rcases hz with h | h; exact Or.inl h; exact Or.inr h.1)
    refine ⟨⟨by simp, by simp; omega⟩, ?_, by intro h; cases h⟩
    simp only [Bool.false_eq_true, if_false, pre, List.nil_append]
    unfold num
    rw [if_neg (by omega), Int.toNat_natCast, hdec]
  | true =>
    have hz' : ds.head? ≠ some 0 := by rcases hz with h | h; exact h; exact absurd h.2 (by decide)
    have hv' : val ds ≤ 9223372036854775808 := by rcases hv with h | ⟨_, h⟩ <;> omega
    have hdec := dec_val ds h0 hd (Or.inl hz')
    have hpos : 0 < val ds := by
      cases ds with
      | nil => exact absurd rfl h0
      | cons c r => exact dec_val.val_pos c r (by simpa using hz')
    refine ⟨⟨by simp; omega, by simp⟩, ?_, fun _ => hpos⟩
    simp only [if_true, pre, List.cons_append, List.nil_append]
    unfold num
    rw [if_pos (by omega), show (-(val ds : Int)).natAbs = val ds from by omega, hdec]
theorem may_no (ds : List Nat) (ng : Bool) (hd : ∀ d ∈ ds, d < 10) (h : mayB ds ng = false) (m : Int) (hm : inI64 m) : num m ≠ pre ng ++ digs ds := by
  intro e
  obtain ⟨h1, h2⟩ := hm
  have key : ∀ u : Nat, u ≤ 9223372036854775808 → Lib.decDigits u = digs ds → ds.length < 20 ∧ val ds = u ∧ (ds.head? = some 0 → u = 0 ∧ ds.length = 1) := by
    intro u hu0 hu
    obtain ⟨es, g1, g2, g3, g4, g5⟩ := dec_digs u
    have := digs_inj es ds g3 hd (by rw [← g1, hu])
    subst this
    refine ⟨?_, g4, g5⟩
    have h3 := dec_len 18 u (by have : (10 : Nat) ^ (18 + 1) = 10000000000000000000 := by decide
                                omega)
    rw [hu] at h3
    simp [digs] at h3; omega
  cases ng with
  | false =>
    simp only [pre, Bool.false_eq_true, if_false, List.nil_append] at e
    by_cases hn : m < 0
    · rw [(num_neg hn).1] at e
      cases ds with
      | nil => simp [digs] at e
      | cons d r =>
        simp only [digs, List.map_cons, List.cons.injEq] at e
        have h3 := congrArg UInt8.toNat e.1
        have h4 := hd d (by simp)
        rw [UInt8.toNat_ofNat'] at h3
        have h5 : (126 : UInt8).toNat = 126 := rfl
        omega
    · rw [(num_pos hn).1] at e
      obtain ⟨k1, k2, k3⟩ := key m.toNat (by omega) e
      have : mayB ds false = true := by
        simp only [mayB, Bool.and_eq_true, Bool.or_eq_true, decide_eq_true_eq]
        refine ⟨⟨k1, ?_⟩, Or.inl (by omega)⟩
        by_cases h0 : ds.head? = some 0
        · exact Or.inr ⟨(k3 h0).2, rfl⟩
        · exact Or.inl h0
      rw [this] at h; cases h
  | true =>
    simp only [pre, if_true, List.cons_append, List.nil_append] at e
    by_cases hn : m < 0
    · rw [(num_neg hn).1] at e
      simp only [List.cons.injEq, true_and] at e
      obtain ⟨k1, k2, k3⟩ := key m.natAbs (by omega) e
      have : mayB ds true = true := by
        simp only [mayB, Bool.and_eq_true, Bool.or_eq_true, decide_eq_true_eq]
        refine ⟨⟨k1, Or.inl ?_⟩, ?_⟩
        · intro h0; have := (k3 h0).1; omega
        · by_cases h9 : val ds ≤ 9223372036854775807
          · exact Or.inl h9
          · exact Or.inr ⟨by simp, by omega⟩
      rw [this] at h; cases h
    · rw [(num_pos hn).1] at e
      have h3 := dec_digit m.toNat 126 (by rw [e]; simp)
      exact absurd h3.2 (by decide)
end Go.Proofs.YthiifacfkeibbaaDoor.Wd

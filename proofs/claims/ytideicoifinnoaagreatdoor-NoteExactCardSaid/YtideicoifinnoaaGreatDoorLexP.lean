/- PLAIN FUNCTIONS ON LISTS OF BYTES: the tokens of a source. No program in this text. -/
import Derived.Test.YtideicoifinnoaaGreatDoorPure
namespace Go.Proofs.YtideicoifinnoaaGreatDoor.Lx
open Go

/-! ### What goes by -/
def blankI (c : Int) : Bool := c == 9 || c == 10 || c == 13 || c == 32
def blank (c : UInt8) : Bool := blankI c.toNat
/-- How many bytes go by at the beginning; the flag: within a remark. -/
def skipB : Bool → List UInt8 → Nat
  | _, [] => 0
  | true, c :: r => if c = 10 then 1 + skipB false r else 1 + skipB true r
  | false, c :: r => if blank c then 1 + skipB false r else if c = 35 then 1 + skipB true r else 0
def skip (l : List UInt8) : Nat := skipB false l

theorem skipB_le : ∀ (l : List UInt8) (f : Bool), skipB f l ≤ l.length
  | [], f => by cases f <;> simp [skipB]
  | c :: r, f => by
    have h1 := skipB_le r false
    have h2 := skipB_le r true
    cases f <;> simp only [skipB, List.length_cons] <;> (repeat' split) <;> omega
theorem skip_le (l : List UInt8) : skip l ≤ l.length := skipB_le l false
theorem skipB_take : ∀ (l : List UInt8) (f : Bool), skipB f (l.take (skipB f l)) = skipB f l
  | [], f => by cases f <;> simp [skipB]
  | c :: r, f => by
    have h1 := skipB_take r false
    have h2 := skipB_take r true
    cases f
    · simp only [skipB]
      by_cases hb : blank c = true
      · rw [if_pos hb, show 1 + skipB false r = skipB false r + 1 from by omega, List.take_succ_cons]; simp only [skipB]; rw [if_pos hb, h1]; omega
      · rw [if_neg hb]
        by_cases h3 : c = 35
        · rw [if_pos h3, show 1 + skipB true r = skipB true r + 1 from by omega, List.take_succ_cons]; simp only [skipB]; rw [if_neg hb, if_pos h3, h2]; omega
        · rw [if_neg h3]; simp [skipB]
    · simp only [skipB]
      by_cases h3 : c = 10
      · rw [if_pos h3, show 1 + skipB false r = skipB false r + 1 from by omega, List.take_succ_cons]; simp only [skipB]; rw [if_pos h3, h1]; omega
      · rw [if_neg h3, show 1 + skipB true r = skipB true r + 1 from by omega, List.take_succ_cons]; simp only [skipB]; rw [if_neg h3, h2]; omega
theorem skipB_take_ge : ∀ (l : List UInt8) (f : Bool) (m : Nat), skipB f l ≤ m → skipB f (l.take m) = skipB f l
  | [], f, m, _ => by cases f <;> simp [skipB]
  | c :: r, f, 0, h => by
    have : skipB f (c :: r) = 0 := by omega
    rw [this]; cases f <;> simp [skipB]
  | c :: r, f, m + 1, h => by
    have h1 := skipB_take_ge r false m
    have h2 := skipB_take_ge r true m
    rw [List.take_succ_cons]
    cases f
    · simp only [skipB] at h ⊢
      by_cases hb : blank c = true
      · rw [if_pos hb] at h ⊢; rw [if_pos hb, h1 (by omega)]
      · rw [if_neg hb] at h ⊢; rw [if_neg hb]
        by_cases h3 : c = 35
        · rw [if_pos h3] at h ⊢; rw [if_pos h3, h2 (by omega)]
        · rw [if_neg h3] at h ⊢; rw [if_neg h3]
    · simp only [skipB] at h ⊢
      by_cases h3 : c = 10
      · rw [if_pos h3] at h ⊢; rw [if_pos h3, h1 (by omega)]
      · rw [if_neg h3] at h ⊢; rw [if_neg h3, h2 (by omega)]
/-- What goes by whole, and what follows. -/
theorem skipB_append : ∀ (l r : List UInt8) (f : Bool), skipB f l = l.length → ∃ g : Bool, skipB f (l ++ r) = l.length + skipB g r ∧ ∀ r', skipB f (l ++ r') = l.length + skipB g r'
  | [], r, f, _ => ⟨f, by simp, fun r' => by simp⟩
  | c :: l, r, f, h => by
    have k1 := skipB_append l r false
    have k2 := skipB_append l r true
    cases f
    · simp only [skipB, List.length_cons] at h
      by_cases hb : blank c = true
      · rw [if_pos hb] at h
        obtain ⟨g, e1, e2⟩ := k1 (by omega)
        refine ⟨g, ?_, fun r' => ?_⟩
        · rw [List.cons_append]; simp only [skipB, List.length_cons]; rw [if_pos hb, e1]; omega
        · rw [List.cons_append]; simp only [skipB, List.length_cons]; rw [if_pos hb, e2]; omega
      · rw [if_neg hb] at h
        by_cases h3 : c = 35
        · rw [if_pos h3] at h
          obtain ⟨g, e1, e2⟩ := k2 (by omega)
          refine ⟨g, ?_, fun r' => ?_⟩
          · rw [List.cons_append]; simp only [skipB, List.length_cons]; rw [if_neg hb, if_pos h3, e1]; omega
          · rw [List.cons_append]; simp only [skipB, List.length_cons]; rw [if_neg hb, if_pos h3, e2]; omega
        · rw [if_neg h3] at h; omega
    · simp only [skipB, List.length_cons] at h
      by_cases h3 : c = 10
      · rw [if_pos h3] at h
        obtain ⟨g, e1, e2⟩ := k1 (by omega)
        refine ⟨g, ?_, fun r' => ?_⟩
        · rw [List.cons_append]; simp only [skipB, List.length_cons]; rw [if_pos h3, e1]; omega
        · rw [List.cons_append]; simp only [skipB, List.length_cons]; rw [if_pos h3, e2]; omega
      · rw [if_neg h3] at h
        obtain ⟨g, e1, e2⟩ := k2 (by omega)
        refine ⟨g, ?_, fun r' => ?_⟩
        · rw [List.cons_append]; simp only [skipB, List.length_cons]; rw [if_neg h3, e1]; omega
        · rw [List.cons_append]; simp only [skipB, List.length_cons]; rw [if_neg h3, e2]; omega
theorem skip_lf (l r : List UInt8) (h : skip l = l.length) : skip (l ++ 10 :: r) = l.length + 1 + skip r := by
  obtain ⟨g, e, _⟩ := skipB_append l (10 :: r) false h
  unfold skip
  rw [e]
  cases g
  · simp only [skipB]; rw [if_pos (by decide)]; omega
  · simp only [skipB]; rw [if_pos trivial]; omega
/-- What doesn't go by whole: what is put behind changes nothing. -/
theorem skipB_more : ∀ (l r : List UInt8) (f : Bool), skipB f l < l.length → skipB f (l ++ r) = skipB f l
  | [], r, f, h => by simp at h
  | c :: l, r, f, h => by
    have h1 := skipB_more l r false
    have h2 := skipB_more l r true
    rw [List.cons_append]
    cases f
    · simp only [skipB, List.length_cons] at h ⊢
      by_cases hb : blank c = true
      · rw [if_pos hb] at h ⊢; rw [if_pos hb, h1 (by omega)]
      · rw [if_neg hb] at h ⊢; rw [if_neg hb]
        by_cases h3 : c = 35
        · rw [if_pos h3] at h ⊢; rw [if_pos h3, h2 (by omega)]
        · rw [if_neg h3] at h ⊢; rw [if_neg h3]
    · simp only [skipB, List.length_cons] at h ⊢
      by_cases h3 : c = 10
      · rw [if_pos h3] at h ⊢; rw [if_pos h3, h1 (by omega)]
      · rw [if_neg h3] at h ⊢; rw [if_neg h3, h2 (by omega)]
theorem skip_more (l r : List UInt8) (h : skip l < l.length) : skip (l ++ r) = skip l := skipB_more l r false h
/-- What goes by stops ahead of what is no blank and no remark. -/
theorem skipB_stop : ∀ (l : List UInt8) (f : Bool) (c : UInt8) (r : List UInt8), l.drop (skipB f l) = c :: r → blank c = false ∧ c ≠ 35
  | [], f, c, r, h => by cases f <;> simp [skipB] at h
  | x :: l, f, c, r, h => by
    have k1 := skipB_stop l false c r
    have k2 := skipB_stop l true c r
    cases f
    · simp only [skipB] at h
      by_cases hb : blank x = true
      · rw [if_pos hb, show 1 + skipB false l = skipB false l + 1 from by omega, List.drop_succ_cons] at h; exact k1 h
      · rw [if_neg hb] at h
        by_cases h3 : x = 35
        · rw [if_pos h3, show 1 + skipB true l = skipB true l + 1 from by omega, List.drop_succ_cons] at h; exact k2 h
        · rw [if_neg h3, List.drop_zero] at h
          injection h with e1 e2
          subst e1
          exact ⟨by simpa using hb, h3⟩
    · simp only [skipB] at h
      by_cases h3 : x = 10
      · rw [if_pos h3, show 1 + skipB false l = skipB false l + 1 from by omega, List.drop_succ_cons] at h; exact k1 h
      · rw [if_neg h3, show 1 + skipB true l = skipB true l + 1 from by omega, List.drop_succ_cons] at h; exact k2 h
theorem skip_none {c : UInt8} {r : List UInt8} (h1 : blank c = false) (h2 : c ≠ 35) : skip (c :: r) = 0 := by
  unfold skip; simp only [skipB]; rw [if_neg (by simp [h1]), if_neg h2]

/-! ### Tokens -/
def digI (c : Int) : Bool := decide (48 ≤ c) && decide (c ≤ 57)
def dig (c : UInt8) : Bool := digI c.toNat
def notQ (c : UInt8) : Bool := !((c.toNat : Int) == 34)
/-- The number whose text it is. -/
def minus : List UInt8 → List UInt8
  | c :: r => if c = 126 then 45 :: r else c :: r
  | [] => []
def pnum (l : List UInt8) : Option Int :=
  match Lib.parseIntB 64 (minus l) with
  | .ok v => if Wd.num v = l then some v else none
  | _ => none
/-- The byte that a sign's two hexadecimal ones denote. -/
def unhex (c : UInt8) : Nat := if 97 ≤ c.toNat then c.toNat - 87 else c.toNat - 48
def dec : Nat → List UInt8 → List UInt8
  | 0, _ => []
  | _ + 1, [] => []
  | n + 1, c :: r => if c = 92 then UInt8.ofNat (unhex (r.getD 0 0) * 16 + unhex (r.getD 1 0)) :: dec n (r.drop 2) else c :: dec n r
/-- The text whose literal it is. -/
def plit (l : List UInt8) : Option (List UInt8) :=
  let t := dec l.length ((l.drop 1).dropLast)
  if t.length ≤ 200 ∧ Wd.quote t = l then some t else none
def shorts : List UInt8 := [40, 41, 91, 93, 44, 58, 61, 124, 43, 45, 42, 47, 60, 63, 95]
def long (c d : UInt8) : Bool := (c == 45 && d == 62) || (c == 58 && d == 58) || (c == 61 && d == 61)

/-- A token's Kind, length, S and N. -/
structure Bare where
  kind : Nat
  len : Nat
  s : List UInt8
  n : Int
def wordT (t : List UInt8) : Option Bare := if Wd.key t then some ⟨2, t.length, t, 0⟩ else if Wd.name t then some ⟨1, t.length, t, 0⟩ else none
def numT (t : List UInt8) : Option Bare := (pnum t).map fun n => ⟨3, t.length, [], n⟩
def strT (t : List UInt8) : Option Bare := (plit t).map fun u => ⟨4, t.length, u, 0⟩
def signT (c : UInt8) (r : List UInt8) : Option Bare :=
  if long c (r.getD 0 0) then some ⟨5, 2, c :: r.take 1, 0⟩ else if shorts.contains c then some ⟨5, 1, [c], 0⟩ else none
/-- The token at the beginning. -/
def first : List UInt8 → Option Bare
  | [] => none
  | c :: r =>
    if Wd.low c then wordT (c :: r.takeWhile Wd.part)
    else if dig c || (c == 126) then numT (c :: r.takeWhile dig)
    else if c == 34 then (if (r.takeWhile notQ).length < r.length then strT (34 :: r.takeWhile notQ ++ [34]) else none)
    else signT c r

theorem pnum_some {l : List UInt8} {n : Int} (h : pnum l = some n) : Wd.inI64 n ∧ Wd.num n = l := by
  unfold pnum at h
  split at h
  · rename_i v hv
    split at h
    · rename_i e
      injection h with h
      subst h
      have hb := Lib.parseIntB_bounds hv
      have hp2 : (2 : Nat) ^ (64 - 1) = 9223372036854775808 := by decide
      rw [hp2] at hb
      exact ⟨⟨by omega, by omega⟩, e⟩
    · cases h
  · cases h
theorem minus_num (n : Int) : minus (Wd.num n) = Lib.itoa n := by
  by_cases hn : n < 0
  · obtain ⟨e1, e2⟩ := Wd.num_neg hn
    rw [e1, e2]; rfl
  · obtain ⟨e1, e2⟩ := Wd.num_pos hn
    obtain ⟨c, r, hd, hc1, hc2⟩ := Wd.dec_head n.toNat
    rw [e1, e2, hd]
    simp only [minus]
    rw [if_neg (by rintro rfl; simp at hc2)]
theorem pnum_num (n : Int) (h : Wd.inI64 n) : pnum (Wd.num n) = some n := by
  unfold pnum
  rw [minus_num n, Wd.parse_itoa n h]
  simp
theorem pnum_none {l : List UInt8} (h : pnum l = none) (n : Int) (hn : Wd.inI64 n) : Wd.num n ≠ l := by
  rintro rfl
  rw [pnum_num n hn] at h; cases h

theorem unhex_at : ∀ a : Fin 16, unhex (Wd.hexAt a.val) = a.val := by decide +kernel
theorem dec_body : ∀ (t : List UInt8) (n : Nat), t.length ≤ n → dec n (Wd.body t) = t
  | [], 0, _ => rfl
  | [], _ + 1, _ => rfl
  | c :: r, 0, h => by simp at h
  | c :: r, n + 1, h => by
    have ih := dec_body r n (by simpa using h)
    rw [Wd.body_cons]
    cases hp : Wd.plain c
    · rw [Wd.qb_hex hp]
      have hlt := c.toNat_lt
      have h1 := unhex_at ⟨c.toNat / 16, by omega⟩
      have h2 := unhex_at ⟨c.toNat % 16, by omega⟩
      simp only [] at h1 h2
      simp only [List.cons_append, List.nil_append, dec, if_true, List.getD_cons_zero, List.getD_cons_succ, List.drop_succ_cons, List.drop_zero]
      rw [ih, h1, h2, show c.toNat / 16 * 16 + c.toNat % 16 = c.toNat from by omega]; simp
    · rw [Wd.qb_plain hp]
      simp only [List.cons_append, List.nil_append, dec]
      rw [if_neg (by rintro rfl; rw [Wd.plain92] at hp; cases hp), ih]
theorem plit_some {l t : List UInt8} (h : plit l = some t) : t.length ≤ 200 ∧ Wd.quote t = l := by
  unfold plit at h
  simp only [] at h
  split at h
  · rename_i e; injection h with h; rw [← h]; exact e
  · cases h
theorem plit_quote (t : List UInt8) (h : t.length ≤ 200) : plit (Wd.quote t) = some t := by
  have e : ((Wd.quote t).drop 1).dropLast = Wd.body t := by simp [Wd.quote]
  have hl := (Wd.body_len t).1
  unfold plit
  rw [e, dec_body t _ (by simp [Wd.quote]; omega)]
  simp [h]
theorem plit_none {l : List UInt8} (h : plit l = none) (t : List UInt8) (ht : t.length ≤ 200) : Wd.quote t ≠ l := by
  rintro rfl
  rw [plit_quote t ht] at h; cases h

theorem tw_len (f : UInt8 → Bool) (l : List UInt8) : (l.takeWhile f).length ≤ l.length := (List.takeWhile_sublist f).length_le
theorem first_len {l : List UInt8} {b : Bare} (h : first l = some b) : 1 ≤ b.len ∧ b.len ≤ l.length := by
  cases l with
  | nil => cases h
  | cons c r =>
    have t1 := tw_len Wd.part r
    have t2 := tw_len dig r
    have t3 := tw_len notQ r
    simp only [first] at h
    split at h
    · simp only [wordT] at h
      split at h
      · injection h with h; subst h; simp; omega
      · split at h
        · injection h with h; subst h; simp; omega
        · cases h
    · split at h
      · simp only [numT, Option.map_eq_some_iff] at h
        obtain ⟨n, _, rfl⟩ := h
        simp; omega
      · split at h
        · split at h
          · simp only [strT, Option.map_eq_some_iff] at h
            obtain ⟨n, _, rfl⟩ := h
            simp; omega
          · cases h
        · simp only [signT] at h
          split at h
          · rename_i hl
            injection h with h; subst h
            cases r with
            | nil => simp [long] at hl
            | cons d r => simp
          · split at h
            · injection h with h; subst h; simp
            · cases h

/-! ### All tokens -/
structure Tok where
  kind : Nat
  frm : Nat
  to_ : Nat
  s : List UInt8
  n : Int
inductive Res where
  | bad (at_ : Nat)
  | good (l : List Tok)
def Res.glue (ts : List Tok) : Res → Res
  | .bad a => .bad a
  | .good l => .good (ts ++ l)
theorem Res.glue_glue (a b : List Tok) (r : Res) : Res.glue a (Res.glue b r) = Res.glue (a ++ b) r := by cases r <;> simp [Res.glue]
theorem Res.glue_nil (r : Res) : Res.glue [] r = r := by cases r <;> simp [Res.glue]
def Bare.at_ (b : Bare) (o : Nat) : Tok := ⟨b.kind, o, o + b.len, b.s, b.n⟩
def scanF : Nat → List UInt8 → Nat → Res
  | 0, _, _ => .good []
  | f + 1, l, o =>
    match l.drop (skip l) with
    | [] => .good []
    | c :: r => match first (c :: r) with
      | none => .bad (o + skip l)
      | some b => Res.glue [b.at_ (o + skip l)] (scanF f ((c :: r).drop b.len) (o + skip l + b.len))
def scan (l : List UInt8) (o : Nat) : Res := scanF (l.length + 1) l o

theorem scanF_more : ∀ (f g : Nat) (l : List UInt8) (o : Nat), l.length < f → l.length < g → scanF f l o = scanF g l o
  | 0, _, _, _, h, _ => absurd h (by omega)
  | _, 0, _, _, _, h => absurd h (by omega)
  | f + 1, g + 1, l, o, hf, hg => by
    simp only [scanF]
    split
    · rfl
    · rename_i c r e
      split
      · rfl
      · rename_i b hb
        have hl := first_len hb
        have hle : (c :: r).length ≤ l.length := by rw [← e]; simp
        rw [scanF_more f g _ _ (by rw [List.length_drop]; omega) (by rw [List.length_drop]; omega)]
theorem scan_eq (l : List UInt8) (o : Nat) : scan l o =
    match l.drop (skip l) with
    | [] => .good []
    | c :: r => match first (c :: r) with
      | none => .bad (o + skip l)
      | some b => Res.glue [b.at_ (o + skip l)] (scan ((c :: r).drop b.len) (o + skip l + b.len)) := by
  rw [show scan l o = scanF (l.length + 1) l o from rfl]
  simp only [scanF]
  split
  · rfl
  · rename_i c r e
    split
    · rfl
    · rename_i b hb
      have hl := first_len hb
      have hle : (c :: r).length ≤ l.length := by rw [← e]; simp
      unfold scan
      rw [scanF_more _ ((List.drop b.len (c :: r)).length + 1) _ _ (by rw [List.length_drop]; omega) (by omega)]
theorem scan_end {l : List UInt8} (o : Nat) (h : l.length ≤ skip l) : scan l o = .good [] := by
  rw [scan_eq, List.drop_of_length_le h]
theorem scan_bad {l : List UInt8} (o : Nat) {c : UInt8} {r : List UInt8} (h : l.drop (skip l) = c :: r) (hf : first (c :: r) = none) : scan l o = .bad (o + skip l) := by
  rw [scan_eq, h]; simp only [hf]
theorem scan_step {l : List UInt8} (o : Nat) {c : UInt8} {r : List UInt8} {b : Bare} (h : l.drop (skip l) = c :: r) (hf : first (c :: r) = some b) :
    scan l o = Res.glue [b.at_ (o + skip l)] (scan ((c :: r).drop b.len) (o + skip l + b.len)) := by
  rw [scan_eq, h]; simp only [hf]
/-- From a place where no blank stands. -/
theorem scan_skip (l : List UInt8) (o : Nat) : scan l o = scan (l.drop (skip l)) (o + skip l) := by
  rw [scan_eq l o, scan_eq (l.drop (skip l))]
  cases h : l.drop (skip l) with
  | nil => rfl
  | cons c r =>
    obtain ⟨h1, h2⟩ := skipB_stop l false c r h
    have hs := skip_none (r := r) h1 h2
    rw [hs, List.drop_zero]
    simp only [Nat.add_zero]
end Go.Proofs.YtideicoifinnoaaGreatDoor.Lx

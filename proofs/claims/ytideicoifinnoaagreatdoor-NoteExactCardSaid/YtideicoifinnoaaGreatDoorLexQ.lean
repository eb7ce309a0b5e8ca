/- PLAIN FACTS ON TOKENS: what is put behind a token, what is cut off, what goes ahead of it. No program in this text. -/
import Derived.Test.YtideicoifinnoaaGreatDoorLexP
namespace Go.Proofs.YtideicoifinnoaaGreatDoor.Lx
open Go

/-- What may stand directly behind a token: nothing, a blank, a remark. -/
def Stops (r : List UInt8) : Prop := ∀ x, r.head? = some x → blank x = true ∨ x = 35
theorem stops_nil : Stops [] := fun x h => by cases h
theorem stops_lf (r : List UInt8) : Stops (10 :: r) := fun x h => by simp at h; subst h; exact Or.inl (by decide)
theorem stop_part : ∀ n : Fin 256, (blank (UInt8.ofNat n.val) || UInt8.ofNat n.val == 35) = true → Wd.part (UInt8.ofNat n.val) = false ∧ dig (UInt8.ofNat n.val) = false ∧ (UInt8.ofNat n.val ≠ 62 ∧ UInt8.ofNat n.val ≠ 58 ∧ UInt8.ofNat n.val ≠ 61) := by decide +kernel
theorem stop_byte {x : UInt8} (h : blank x = true ∨ x = 35) : Wd.part x = false ∧ dig x = false ∧ (x ≠ 62 ∧ x ≠ 58 ∧ x ≠ 61) := by
  have := stop_part ⟨x.toNat, x.toNat_lt⟩
  simp only [UInt8.ofNat_toNat] at this
  exact this (by rcases h with h | h <;> simp [h])
theorem tw_app (p : UInt8 → Bool) : ∀ (l r : List UInt8), (∀ x, r.head? = some x → p x = false) → (l ++ r).takeWhile p = l.takeWhile p
  | [], r, h => by
    cases r with
    | nil => rfl
    | cons x r => simp [h x rfl]
  | c :: l, r, h => by
    rw [List.cons_append, List.takeWhile_cons, List.takeWhile_cons, tw_app p l r h]
theorem tw_app_lt (p : UInt8 → Bool) : ∀ (l r : List UInt8), (l.takeWhile p).length < l.length → (l ++ r).takeWhile p = l.takeWhile p
  | [], r, h => by simp at h
  | c :: l, r, h => by
    rw [List.cons_append, List.takeWhile_cons, List.takeWhile_cons]
    by_cases hp : p c = true
    · rw [List.takeWhile_cons, if_pos hp] at h
      rw [if_pos hp, if_pos hp, tw_app_lt p l r (by simpa using h)]
    · rw [if_neg hp, if_neg hp]
theorem tw_cut (p : UInt8 → Bool) : ∀ (l : List UInt8) (m : Nat), (l.takeWhile p).length ≤ m → (l.take m).takeWhile p = l.takeWhile p
  | [], m, _ => by simp
  | c :: l, 0, h => by
    simp at h
    rw [List.take_zero, List.takeWhile_nil]; simp [h]
  | c :: l, m + 1, h => by
    rw [List.take_succ_cons, List.takeWhile_cons, List.takeWhile_cons]
    by_cases hp : p c = true
    · rw [List.takeWhile_cons, if_pos hp] at h
      rw [if_pos hp, if_pos hp, tw_cut p l m (by simpa using h)]
    · rw [if_neg hp, if_neg hp]

theorem wordT_len {t : List UInt8} {b : Bare} (h : wordT t = some b) : b.len = t.length := by
  simp only [wordT] at h
  split at h
  · injection h with h; subst h; rfl
  · split at h
    · injection h with h; subst h; rfl
    · cases h
theorem numT_len {t : List UInt8} {b : Bare} (h : numT t = some b) : b.len = t.length := by
  simp only [numT, Option.map_eq_some_iff] at h
  obtain ⟨n, _, rfl⟩ := h; rfl
theorem strT_len {t : List UInt8} {b : Bare} (h : strT t = some b) : b.len = t.length := by
  simp only [strT, Option.map_eq_some_iff] at h
  obtain ⟨n, _, rfl⟩ := h; rfl
theorem long_zero (c : UInt8) : long c 0 = false := by simp [long]
theorem signT_app {c : UInt8} {r x : List UInt8} (hx : Stops x) : signT c (r ++ x) = signT c r := by
  cases r with
  | cons d r => simp [signT]
  | nil =>
    cases x with
    | nil => rfl
    | cons y x =>
      obtain ⟨_, _, h1, h2, h3⟩ := stop_byte (hx y rfl)
      have e : long c y = false := by simp [long, h1, h2, h3]
      simp [signT, e, long_zero]
theorem signT_cut {c : UInt8} {r : List UInt8} {b : Bare} {m : Nat} (h : signT c r = some b) (hm : b.len ≤ m + 1) : signT c (r.take m) = some b := by
  cases r with
  | nil => simpa using h
  | cons d r =>
    cases m with
    | succ m =>
      simp only [signT, List.take_succ_cons, List.getD_cons_zero, List.take_zero] at h ⊢
      exact h
    | zero =>
      simp only [signT, List.getD_cons_zero] at h
      split at h
      · injection h with h; subst h; simp at hm
      · have e : signT c ([] : List UInt8) = if shorts.contains c = true then some ⟨5, 1, [c], 0⟩ else none := by simp [signT, long_zero]
        rw [List.take_zero, e]; exact h
/-- WHAT STOPS BEHIND: the same token. -/
theorem first_app {l x : List UInt8} {b : Bare} (h : first l = some b) (hx : Stops x) : first (l ++ x) = some b := by
  cases l with
  | nil => cases h
  | cons c r =>
    simp only [first, List.cons_append] at h ⊢
    rw [tw_app Wd.part r x (fun y hy => (stop_byte (hx y hy)).1), tw_app dig r x (fun y hy => (stop_byte (hx y hy)).2.1), signT_app hx]
    split
    · rename_i hc; rw [if_pos hc] at h; exact h
    · rename_i hc
      rw [if_neg hc] at h
      split
      · rename_i hd; rw [if_pos hd] at h; exact h
      · rename_i hd
        rw [if_neg hd] at h
        split
        · rename_i hq
          rw [if_pos hq] at h
          split at h
          · rename_i hlt
            rw [tw_app_lt notQ r x hlt, if_pos (by simp; omega)]; exact h
          · cases h
        · rename_i hq; rw [if_neg hq] at h; exact h
/-- WHAT IS BEHIND CUT OFF: the same token. -/
theorem first_cut {l : List UInt8} {b : Bare} {m : Nat} (h : first l = some b) (hm : b.len ≤ m) : first (l.take m) = some b := by
  cases l with
  | nil => cases h
  | cons c r =>
    have hl := (first_len h).1
    obtain ⟨k, rfl⟩ : ∃ k, m = k + 1 := ⟨m - 1, by omega⟩
    rw [List.take_succ_cons]
    simp only [first] at h ⊢
    split at h
    · rename_i hc
      have := wordT_len h
      rw [if_pos hc, tw_cut Wd.part r k (by simp at this; omega)]; exact h
    · rename_i hc
      rw [if_neg hc]
      split at h
      · rename_i hd
        have := numT_len h
        rw [if_pos hd, tw_cut dig r k (by simp at this; omega)]; exact h
      · rename_i hd
        rw [if_neg hd]
        split at h
        · rename_i hq
          rw [if_pos hq]
          split at h
          · rename_i hlt
            have := strT_len h
            simp at this
            rw [tw_cut notQ r k (by omega), if_pos (by simp; omega)]; exact h
          · cases h
        · rename_i hq
          rw [if_neg hq]
          exact signT_cut h hm
/-- No token begins with what goes by. -/
theorem first_stop {c : UInt8} {r : List UInt8} {b : Bare} (h : first (c :: r) = some b) : blank c = false ∧ c ≠ 35 := by
  have hc : ¬ (blank c = true ∨ c = 35) := by
    intro hc
    have k : ∀ n : Fin 256, (blank (UInt8.ofNat n.val) || UInt8.ofNat n.val == 35) = true → Wd.low (UInt8.ofNat n.val) = false ∧ (dig (UInt8.ofNat n.val) || UInt8.ofNat n.val == 126) = false ∧ (UInt8.ofNat n.val == 34) = false ∧ shorts.contains (UInt8.ofNat n.val) = false ∧ (UInt8.ofNat n.val ≠ 45 ∧ UInt8.ofNat n.val ≠ 58 ∧ UInt8.ofNat n.val ≠ 61) := by decide +kernel
    have := k ⟨c.toNat, c.toNat_lt⟩
    simp only [UInt8.ofNat_toNat] at this
    obtain ⟨h1, h2, h3, h4, h5, h6, h7⟩ := this (by rcases hc with h | h <;> simp [h])
    simp only [first, h1, h2, h3, signT, h4] at h
    rw [if_neg (by simp), if_neg (by simp), if_neg (by simp), if_neg (by simp [long, h5, h6, h7]), if_neg (by simp)] at h
    cases h
  exact ⟨by simpa using fun e => hc (Or.inl e), fun e => hc (Or.inr e)⟩

/-! ### Shifted -/
def Tok.shift (d : Nat) (t : Tok) : Tok := { t with frm := t.frm + d, to_ := t.to_ + d }
def Res.shift (d : Nat) : Res → Res
  | .bad a => .bad (a + d)
  | .good l => .good (l.map (Tok.shift d))
theorem scanF_shift (d : Nat) : ∀ (f : Nat) (l : List UInt8) (o : Nat), scanF f l (o + d) = Res.shift d (scanF f l o)
  | 0, _, _ => rfl
  | f + 1, l, o => by
    simp only [scanF]
    split
    · rfl
    · split
      · simp only [Res.shift]; congr 1; omega
      · rename_i b hb
        rw [show o + d + skip l + b.len = (o + skip l + b.len) + d from by omega, scanF_shift d f]
        cases scanF f (List.drop b.len (_ :: _)) (o + skip l + b.len) with
        | bad a => rfl
        | good ts =>
          simp only [Res.glue, Res.shift, List.map_append, List.map_cons, List.map_nil]
          congr 2
          simp only [Bare.at_, Tok.shift]
          congr 2 <;> omega
theorem scan_shift (l : List UInt8) (o : Nat) : scan l o = Res.shift o (scan l 0) := by
  have := scanF_shift o (l.length + 1) l 0
  rw [Nat.zero_add] at this
  exact this

/-! ### One behind the other -/
theorem scan_lf : ∀ (n : Nat) (c : List UInt8), c.length < n → ∀ (b : List UInt8) (o : Nat) (m : List Tok), scan c o = .good m → scan (c ++ 10 :: b) o = Res.glue m (scan b (o + c.length + 1))
  | 0, c, h, _, _, _, _ => absurd h (by omega)
  | n + 1, c, hn, b, o, m, h => by
    cases hd : c.drop (skip c) with
    | nil =>
      have hs : skip c = c.length := by
        have h1 := skip_le c
        have h2 := List.drop_eq_nil_iff.1 hd
        omega
      rw [scan_end o (by omega)] at h
      injection h with h; subst h
      rw [Res.glue_nil, scan_skip (c ++ 10 :: b), skip_lf c b hs, scan_skip b]
      rw [show (c ++ 10 :: b).drop (c.length + 1 + skip b) = b.drop (skip b) from by
        rw [List.drop_append, List.drop_of_length_le (by omega), show c.length + 1 + skip b - c.length = skip b + 1 from by omega, List.drop_succ_cons]; rfl]
      congr 1; omega
    | cons x r =>
      cases hf : first (x :: r) with
      | none => rw [scan_bad o hd hf] at h; cases h
      | some t =>
        have hlen : (x :: r).length = c.length - skip c := by rw [← hd]; simp
        have htl := first_len hf
        have hlt : skip c < c.length := by simp at hlen; omega
        rw [scan_step o hd hf] at h
        cases hr : scan ((x :: r).drop t.len) (o + skip c + t.len) with
        | bad a => rw [hr] at h; cases h
        | good m' =>
          rw [hr] at h
          injection h with h; subst h
          have hd2 : (c ++ 10 :: b).drop (skip (c ++ 10 :: b)) = x :: (r ++ 10 :: b) := by
            rw [skip_more c _ hlt, List.drop_append_of_le_length (by omega), hd]; rfl
          have hf2 : first (x :: (r ++ 10 :: b)) = some t := by
            have := first_app hf (stops_lf b); exact this
          rw [scan_step o hd2 hf2, skip_more c _ hlt]
          have e : (x :: (r ++ 10 :: b)).drop t.len = (x :: r).drop t.len ++ 10 :: b := by
            rw [show x :: (r ++ 10 :: b) = (x :: r) ++ 10 :: b from rfl, List.drop_append_of_le_length htl.2]
          rw [e, scan_lf n ((x :: r).drop t.len) (by rw [List.length_drop]; omega) b _ m' hr, Res.glue_glue]
          congr 2
          rw [List.length_drop]; omega
/-- The place where a source is refused; what stands ahead of it has tokens. -/
theorem scan_refused : ∀ (n : Nat) (c : List UInt8), c.length < n → ∀ (o a : Nat), scan c o = .bad a → o ≤ a ∧ a < o + c.length ∧ ∀ m, m = a - o → ∃ ts, scan (c.take m) o = .good ts
  | 0, c, h, _, _, _ => absurd h (by omega)
  | n + 1, c, hn, o, a, h => by
    cases hd : c.drop (skip c) with
    | nil =>
      have h2 := List.drop_eq_nil_iff.1 hd
      rw [scan_end o h2] at h; cases h
    | cons x r =>
      have hlen : (x :: r).length = c.length - skip c := by rw [← hd]; simp
      cases hf : first (x :: r) with
      | none =>
        rw [scan_bad o hd hf] at h
        injection h with h; subst h
        simp at hlen
        refine ⟨by omega, by omega, fun m hm => ⟨[], ?_⟩⟩
        have e : m = skip c := by omega
        subst e
        exact scan_end o (by rw [show skip (c.take (skip c)) = skip c from skipB_take c false]; simp; omega)
      | some t =>
        have htl := first_len hf
        rw [scan_step o hd hf] at h
        cases hr : scan ((x :: r).drop t.len) (o + skip c + t.len) with
        | good m' => rw [hr] at h; cases h
        | bad a' =>
          rw [hr] at h
          injection h with h; subst h
          obtain ⟨h1, h2, h3⟩ := scan_refused n ((x :: r).drop t.len) (by rw [List.length_drop]; omega) _ _ hr
          rw [List.length_drop] at h2
          refine ⟨by omega, by omega, fun m hm => ?_⟩
          obtain ⟨ts, hts⟩ := h3 (m - skip c - t.len) (by omega)
          have hcl : (c.take m).drop (skip (c.take m)) = x :: r.take (m - skip c - 1) := by
            rw [show skip (c.take m) = skip c from skipB_take_ge c false m (by simp only [skip] at *; omega), List.drop_take, hd]
            obtain ⟨k, hk⟩ : ∃ k, m - skip c = k + 1 := ⟨m - skip c - 1, by omega⟩
            rw [hk, List.take_succ_cons]; rfl
          have hf2 : first (x :: r.take (m - skip c - 1)) = some t := by
            have := first_cut (m := (m - skip c - 1) + 1) hf (by omega)
            rw [List.take_succ_cons] at this; exact this
          refine ⟨t.at_ (o + skip c) :: ts, ?_⟩
          rw [scan_step o hcl hf2, show skip (c.take m) = skip c from skipB_take_ge c false m (by simp only [skip] at *; omega)]
          have e : (x :: r.take (m - skip c - 1)).drop t.len = ((x :: r).drop t.len).take (m - skip c - t.len) := by
            rw [show x :: r.take (m - skip c - 1) = (x :: r).take (m - skip c - 1 + 1) from rfl, List.drop_take]
            congr 1; omega
          rw [e, hts]; rfl

/-! ### Gap, token, gap, token .. -/
theorem glue_one {t : Tok} {r : Res} {l : List Tok} (h : Res.glue [t] r = .good l) : ∃ rest, r = .good rest ∧ l = t :: rest := by
  cases r with
  | bad a => cases h
  | good m => injection h with h; exact ⟨m, rfl, h.symm⟩
theorem scan_one {l : List UInt8} {b : Bare} (h : first l = some b) (hl : b.len = l.length) : scan l 0 = .good [b.at_ 0] := by
  cases l with
  | nil => cases h
  | cons c r =>
    obtain ⟨h1, h2⟩ := first_stop h
    have hs := skip_none (r := r) h1 h2
    rw [scan_step 0 (show (c :: r).drop (skip (c :: r)) = c :: r from by rw [hs]; rfl) h, hs, hl, List.drop_length, scan_end _ (by simp)]
    rfl
theorem span_step {l : List UInt8} {o : Nat} {t : Tok} {rest : List Tok} (h : scan l o = .good (t :: rest)) :
    ∃ k n : Nat, t.frm = o + k ∧ t.to_ = o + k + n ∧ 1 ≤ n ∧ k + n ≤ l.length ∧ k = skip l ∧ scan (l.take k) 0 = .good [] ∧
      (∃ b : Bare, b.len = n ∧ t = b.at_ (o + k) ∧ first (l.drop k) = some b ∧ first ((l.drop k).take n) = some b) ∧ scan ((l.drop k).take n) 0 = .good [⟨t.kind, 0, n, t.s, t.n⟩] ∧ scan (l.drop (k + n)) (o + k + n) = .good rest := by
  cases hd : l.drop (skip l) with
  | nil => rw [scan_end o (List.drop_eq_nil_iff.1 hd)] at h; cases h
  | cons c r =>
    cases hf : first (c :: r) with
    | none => rw [scan_bad o hd hf] at h; cases h
    | some b =>
      rw [scan_step o hd hf] at h
      obtain ⟨rest', h1, h2⟩ := glue_one h
      injection h2 with h2 h3
      subst h2 h3
      have htl := first_len hf
      have hlen : (c :: r).length = l.length - skip l := by rw [← hd]; simp
      have hsl := skip_le l
      have hfc := first_cut (m := b.len) hf (Nat.le_refl _)
      have htk : ((c :: r).take b.len).length = b.len := by rw [List.length_take]; omega
      refine ⟨skip l, b.len, rfl, rfl, htl.1, by omega, rfl, ?_, ⟨b, rfl, rfl, by rw [hd]; exact hf, by rw [hd]; exact hfc⟩, ?_, ?_⟩
      · exact scan_end 0 (by rw [show skip (l.take (skip l)) = skip l from skipB_take l false]; simp; omega)
      · rw [hd, scan_one hfc htk.symm]
        simp [Bare.at_]
      · rw [← List.drop_drop, hd]; exact h1
theorem scan_last {l : List UInt8} {o : Nat} (h : scan l o = .good []) : scan l 0 = .good [] := by
  rw [scan_shift l o] at h
  cases hs : scan l 0 with
  | bad a => rw [hs] at h; cases h
  | good m =>
    rw [hs] at h
    injection h with h
    rw [List.map_eq_nil_iff.1 h]
/-- A source of a token for each element. -/
theorem scan_len : ∀ (n : Nat) (l : List UInt8), l.length < n → ∀ (o : Nat) (ts : List Tok), scan l o = .good ts → ts.length ≤ l.length
  | 0, l, h, _, _, _ => absurd h (by omega)
  | n + 1, l, hn, o, ts, h => by
    cases ts with
    | nil => simp
    | cons t rest =>
      obtain ⟨k, m, _, _, h3, h4, _, _, _, _, h5⟩ := span_step h
      have := scan_len n (l.drop (k + m)) (by rw [List.length_drop]; omega) _ _ h5
      rw [List.length_drop] at this
      simp; omega

/-! ### Other blanks between the tokens -/
def sevenB : List (List UInt8) := [[32], [10], [9, 13], [32, 32], [35, 32, 120, 32, 36, 32, 34, 10], [10, 35, 10], [32, 35, 126, 10, 10]]
theorem seven_skip : ∀ B ∈ sevenB, ∀ y : List UInt8, skip (B ++ y) = B.length + skip y ∧ Stops (B ++ y) := by
  intro B hB y
  simp only [sevenB, List.mem_cons, List.not_mem_nil, or_false] at hB
  rcases hB with rfl | rfl | rfl | rfl | rfl | rfl | rfl
  all_goals exact ⟨by simp [skip, skipB, blank, blankI] <;> omega, fun x hx => by simp at hx; subst hx; first | exact Or.inl (by decide) | exact Or.inr rfl⟩
/-- From the i-th piece on. -/
def blend (L : List UInt8) (B : Nat → List UInt8) : Nat → List Tok → List UInt8
  | i, [] => B i
  | i, t :: rest => B i ++ ((L.drop t.frm).take (t.to_ - t.frm) ++ blend L B (i + 1) rest)
theorem blend_stops (L : List UInt8) (B : Nat → List UInt8) (hB : ∀ i, B i ∈ sevenB) (i : Nat) (ts : List Tok) : Stops (blend L B i ts) := by
  cases ts with
  | nil =>
    have := (seven_skip (B i) (hB i) []).2
    rw [List.append_nil] at this; exact this
  | cons t rest => exact (seven_skip (B i) (hB i) _).2
theorem blend_scan (L : List UInt8) (B : Nat → List UInt8) (hB : ∀ i, B i ∈ sevenB) : ∀ (ts : List Tok) (i at_ o : Nat), scan (L.drop at_) at_ = .good ts → ∃ m, scan (blend L B i ts) o = .good m ∧ m.map (fun t : Tok => { t with frm := 0, to_ := 0 }) = ts.map (fun t : Tok => { t with frm := 0, to_ := 0 })
  | [], i, at_, o, _ => by
    refine ⟨[], scan_end o ?_, rfl⟩
    have := (seven_skip (B i) (hB i) []).1
    rw [List.append_nil] at this
    simp only [blend]
    rw [this]; omega
  | t :: rest, i, at_, o, h => by
    obtain ⟨k, n, h1, h2, h3, h4, h5, _, ⟨b, hb1, hb2, hb3, hb4⟩, _, h6⟩ := span_step h
    rw [List.drop_drop] at hb3 hb4 h6
    rw [← Nat.add_assoc] at h6
    have hbytes : (L.drop t.frm).take (t.to_ - t.frm) = (L.drop (at_ + k)).take n := by rw [h1, h2]; congr 1; omega
    rw [List.length_drop] at h4
    have hlen : ((L.drop (at_ + k)).take n).length = n := by rw [List.length_take, List.length_drop]; omega
    generalize hx : (L.drop (at_ + k)).take n = x at *
    cases x with
    | nil => simp at hlen; omega
    | cons c r =>
      obtain ⟨s1, s2⟩ := first_stop hb4
      simp only [blend]
      rw [hbytes]
      have hsk : skip (B i ++ (c :: r ++ blend L B (i + 1) rest)) = (B i).length := by
        rw [(seven_skip (B i) (hB i) _).1, List.cons_append, skip_none s1 s2]; rfl
      have hd : (B i ++ (c :: r ++ blend L B (i + 1) rest)).drop (skip (B i ++ (c :: r ++ blend L B (i + 1) rest))) = c :: (r ++ blend L B (i + 1) rest) := by
        rw [hsk, List.drop_left]; rfl
      have hf : first (c :: (r ++ blend L B (i + 1) rest)) = some b := first_app hb4 (blend_stops L B hB (i + 1) rest)
      obtain ⟨m, hm1, hm2⟩ := blend_scan L B hB rest (i + 1) (at_ + k + n) (o + (B i).length + b.len) h6
      refine ⟨b.at_ (o + (B i).length) :: m, ?_, ?_⟩
      · rw [scan_step o hd hf, hsk]
        have e : (c :: (r ++ blend L B (i + 1) rest)).drop b.len = blend L B (i + 1) rest := by
          rw [show c :: (r ++ blend L B (i + 1) rest) = (c :: r) ++ blend L B (i + 1) rest from rfl, hb1, ← hlen, List.drop_left]
        rw [e, hm1]; rfl
      · rw [List.map_cons, List.map_cons, hm2, hb2]; rfl
end Go.Proofs.YtideicoifinnoaaGreatDoor.Lx

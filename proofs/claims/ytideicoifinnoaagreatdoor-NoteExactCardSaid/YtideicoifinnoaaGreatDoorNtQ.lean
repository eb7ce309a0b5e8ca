/- The tokens of a closed type's text: plain facts. -/
import Derived.Test.YtideicoifinnoaaGreatDoorNtF
namespace Go.Proofs.YtideicoifinnoaaGreatDoor
open Tp (T)
namespace Nt

abbrev Tk := Nat × List UInt8
def keyT (t : Lx.Tok) : Tk := (t.kind, t.s)
def sWord : List UInt8 := [108, 105, 115, 116]
def sepS (k : Int) : List UInt8 := if k = 7 then [42] else [45, 62]
def leafTk (k : Int) : List Tk := if k = 1 then [(2, sInt)] else if k = 2 then [(2, sBool)] else if k = 3 then [(2, sStr)] else if k = 4 then [(2, sUnit)] else if k = 5 then [(5, sDyn)] else []
def glueTk (k : Int) : List (List Tk) → List Tk
  | [] => leafTk k
  | [x] => x ++ [(2, sWord)]
  | x :: y :: _ => x ++ (5, sepS k) :: y
def parenTk (b : Bool) (s : List Tk) : List Tk := if b then s else (5, [40]) :: (s ++ [(5, [41])])
mutual
def tk : T → List Tk
  | .mk k _ l => glueTk k (inTks l)
def inTks : List T → List (List Tk)
  | [] => []
  | t :: r => parenTk t.kids.isEmpty (tk t) :: inTks r
end
def inTk (t : T) : List Tk := parenTk t.kids.isEmpty (tk t)
theorem tk_leaf (k n : Int) : tk (.mk k n []) = leafTk k := by simp [tk, inTks, glueTk]
theorem tk_one (k n : Int) (x : T) : tk (.mk k n [x]) = inTk x ++ [(2, sWord)] := by simp [tk, inTks, glueTk, inTk]
theorem tk_two (k n : Int) (x y : T) : tk (.mk k n [x, y]) = inTk x ++ (5, sepS k) :: inTk y := by simp [tk, inTks, glueTk, inTk]

/-- The bytes l, ahead of r, are these tokens. -/
def Scans (l r : List UInt8) (ks : List Tk) : Prop := ∀ o, ∃ ts, ts.map keyT = ks ∧ Lx.scan (l ++ r) o = Lx.Res.glue ts (Lx.scan r (o + l.length))
theorem Scans.app {l m r : List UInt8} {a b : List Tk} (h : Scans l (m ++ r) a) (k : Scans m r b) : Scans (l ++ m) r (a ++ b) := by
  intro o
  obtain ⟨t1, h1, h2⟩ := h o
  obtain ⟨t2, k1, k2⟩ := k (o + l.length)
  refine ⟨t1 ++ t2, by rw [List.map_append, h1, k1], ?_⟩
  rw [List.append_assoc, h2, k2, Lx.Res.glue_glue, List.length_append, Nat.add_assoc]
/-- What does not go on a word. -/
def StopB (r : List UInt8) : Prop := ∀ c, r.head? = some c → Wd.part c = false
theorem stopB_cons {c : UInt8} {r : List UInt8} (h : Wd.part c = false) : StopB (c :: r) := fun x hx => by simp at hx; subst hx; exact h
theorem skip_blank (r : List UInt8) : Lx.skip (32 :: r) = Lx.skip r + 1 := by
  unfold Lx.skip
  simp [Lx.skipB, Lx.blank, Lx.blankI]
  omega
theorem scans_blank (r : List UInt8) : Scans [32] r [] := by
  intro o
  refine ⟨[], rfl, ?_⟩
  rw [Lx.Res.glue_nil, Lx.scan_skip ([32] ++ r), Lx.scan_skip r]
  show Lx.scan (List.drop (Lx.skip (32 :: r)) (32 :: r)) (o + Lx.skip (32 :: r)) = _
  rw [skip_blank]
  simp [Nat.add_assoc, Nat.add_comm 1]
theorem scans_first {c : UInt8} {l r : List UInt8} {b : Lx.Bare} (hc : Lx.blank c = false ∧ c ≠ 35) (hf : Lx.first (c :: l ++ r) = some b) (hb : b.len = l.length + 1) : Scans (c :: l) r [(b.kind, b.s)] := by
  intro o
  refine ⟨[b.at_ o], rfl, ?_⟩
  have h0 : Lx.skip (c :: l ++ r) = 0 := Lx.skip_none hc.1 hc.2
  have := Lx.scan_step (l := c :: l ++ r) o (c := c) (r := l ++ r) (b := b) (by rw [h0]; rfl) hf
  rw [h0] at this
  rw [this, hb]
  simp
theorem tw_all (p : UInt8 → Bool) : ∀ l : List UInt8, l.all p = true → l.takeWhile p = l
  | [], _ => rfl
  | c :: r, h => by
    simp only [List.all_cons, Bool.and_eq_true] at h
    rw [List.takeWhile_cons, h.1]
    simp [tw_all p r h.2]
theorem scans_word (s : List UInt8) (hs : s = sInt ∨ s = sBool ∨ s = sStr ∨ s = sUnit ∨ s = sWord) {r : List UInt8} (hr : StopB r) : Scans s r [(2, s)] := by
  have key : ∀ (c : UInt8) (l : List UInt8), Wd.low c = true → l.all Wd.part = true → Wd.key (c :: l) = true → Lx.blank c = false ∧ c ≠ 35 → Scans (c :: l) r [(2, c :: l)] := by
    intro c l h1 h2 h3 h4
    have hf : Lx.first (c :: l ++ r) = some ⟨2, l.length + 1, c :: l, 0⟩ := by
      show (if Wd.low c then Lx.wordT (c :: (l ++ r).takeWhile Wd.part) else _) = _
      rw [if_pos h1, Lx.tw_app _ _ _ hr]
      rw [tw_all _ _ h2]
      unfold Lx.wordT
      rw [if_pos h3]
      rfl
    exact scans_first h4 hf rfl
  rcases hs with rfl | rfl | rfl | rfl | rfl <;> exact key _ _ (by decide) (by decide) (by decide) (by decide)
theorem scans_sign (c : UInt8) (hc : c = 40 ∨ c = 41 ∨ c = 63 ∨ c = 42) (r : List UInt8) : Scans [c] r [(5, [c])] := by
  have hf : Lx.first (c :: [] ++ r) = some ⟨5, 1, [c], 0⟩ := by
    show Lx.first (c :: r) = _
    have hl : ∀ d, Lx.long c d = false := by intro d; rcases hc with rfl | rfl | rfl | rfl <;> simp [Lx.long]
    rcases hc with rfl | rfl | rfl | rfl <;> simp [Lx.first, Lx.signT, hl, Lx.shorts, Wd.low, Wd.lowI, Lx.dig, Lx.digI]
  refine scans_first ?_ hf rfl
  rcases hc with rfl | rfl | rfl | rfl <;> decide
theorem scans_arrow (r : List UInt8) : Scans [45, 62] r [(5, [45, 62])] := by
  have hf : Lx.first (45 :: [62] ++ r) = some ⟨5, 2, [45, 62], 0⟩ := by
    show Lx.first (45 :: 62 :: r) = _
    simp [Lx.first, Lx.signT, Lx.long, Wd.low, Wd.lowI, Lx.dig, Lx.digI]
  exact scans_first (by decide) hf rfl
theorem scans_paren {s r : List UInt8} {ks : List Tk} (h : Scans s (41 :: r) ks) : Scans (40 :: (s ++ [41])) r ((5, [40]) :: (ks ++ [(5, [41])])) := by
  have h1 := scans_sign 40 (.inl rfl) ((s ++ [41]) ++ r)
  have h2 : Scans (s ++ [41]) r (ks ++ [(5, [41])]) := Scans.app h (scans_sign 41 (.inr (.inl rfl)) r)
  exact Scans.app (l := [40]) (a := [(5, [40])]) h1 h2
/-- The text of a right closed type is its tokens, to the last one, whatever follows that goes on no word. -/
theorem scans_text : ∀ (n : Nat) (t : T), Tp.size t ≤ n → Tp.right t = true → Tp.without 6 t = true → ∀ r, StopB r → Scans (text t) r (tk t)
  | 0, t, h, _, _, _, _ => by have := Tp.size_pos t; omega
  | n + 1, t, hn, hr, hc, r, hs => by
    have hin : ∀ x : T, Tp.size x ≤ n → Tp.right x = true → Tp.without 6 x = true → ∀ r, StopB r → Scans (inner x) r (inTk x) := by
      intro x h1 h2 h3 r hs
      unfold inner inTk paren parenTk
      split
      · exact scans_text n x h1 h2 h3 r hs
      · exact scans_paren (scans_text n x h1 h2 h3 _ (stopB_cons (by decide)))
    rcases (right_cases t hr).2 with h0 | ⟨m, x, rfl, hx⟩ | ⟨k, m, x, y, hk, rfl, hx, hy⟩
    · cases t with
      | mk k m l =>
        simp only [Tp.T.kids] at h0
        subst h0
        rw [text_leaf, tk_leaf]
        simp only [Tp.without, Bool.and_eq_true, Bool.not_eq_true', decide_eq_false_iff_not] at hc
        simp only [Tp.right, Tp.nodeRight, Bool.and_eq_true, decide_eq_true_eq, List.length_nil] at hr
        have hk : k = 1 ∨ k = 2 ∨ k = 3 ∨ k = 4 ∨ k = 5 := by
          obtain ⟨⟨⟨⟨h1, _⟩, _⟩, _⟩, _⟩ := hr
          have h6 := hc.1
          have h1' : Tp.arity k = 0 := by simpa using h1
          unfold Tp.arity at h1'
          clear h1
          by_cases h7 : k = 1 ∨ k = 2 ∨ k = 3 ∨ k = 4 ∨ k = 5 ∨ k = 6
          · omega
          · rw [if_neg h7] at h1'
            by_cases h8 : k = 8
            · rw [if_pos h8] at h1'; cases h1'
            · rw [if_neg h8] at h1'
              by_cases h9 : k = 7 ∨ k = 9
              · rw [if_pos h9] at h1'; cases h1'
              · rw [if_neg h9] at h1'; cases h1'
        rcases hk with rfl | rfl | rfl | rfl | rfl
        · exact scans_word sInt (by simp) hs
        · exact scans_word sBool (by simp) hs
        · exact scans_word sStr (by simp) hs
        · exact scans_word sUnit (by simp) hs
        · exact scans_sign 63 (by simp) r
    · rw [text_one, tk_one]
      simp only [Tp.size, Tp.sizes] at hn
      simp only [Tp.without, Tp.withouts, Bool.and_eq_true] at hc
      refine Scans.app (hin x (by omega) hx hc.2.1 _ (stopB_cons (by decide))) ?_
      exact Scans.app (l := [32]) (m := sWord) (a := []) (scans_blank _) (scans_word sWord (by simp) hs)
    · rw [text_two, tk_two]
      simp only [Tp.size, Tp.sizes] at hn
      simp only [Tp.without, Tp.withouts, Bool.and_eq_true] at hc
      have hyy := hin y (by omega) hy hc.2.2.1 r hs
      rcases hk with rfl | rfl
      · refine Scans.app (hin x (by omega) hx hc.2.1 _ (stopB_cons (by decide))) ?_
        exact Scans.app (l := [32]) (m := [42, 32] ++ inner y) (a := []) (scans_blank _) (Scans.app (l := [42]) (m := [32] ++ inner y) (a := [(5, [42])]) (scans_sign 42 (by simp) _) (Scans.app (l := [32]) (a := []) (scans_blank _) hyy))
      · refine Scans.app (hin x (by omega) hx hc.2.1 _ (stopB_cons (by decide))) ?_
        exact Scans.app (l := [32]) (m := [45, 62, 32] ++ inner y) (a := []) (scans_blank _) (Scans.app (l := [45, 62]) (m := [32] ++ inner y) (a := [(5, [45, 62])]) (scans_arrow _) (Scans.app (l := [32]) (a := []) (scans_blank _) hyy))
end Nt
end Go.Proofs.YtideicoifinnoaaGreatDoor

/- The page's reading of a type, by the grammar; the reader with a stack gives the same. -/
import Derived.Test.YtideicoifinnoaaGreatDoorNtV
namespace Go.Proofs.YtideicoifinnoaaGreatDoor
open Tp (T)
namespace Nt

/-- What the page's reading gives: a type and what is left, or where none goes on. -/
inductive Rd where
  | ok (t : T) (r : List Tk)
  | err (r : List Tk)
def Rd.post : Rd → Rd
  | .ok t r => .ok (lists r t).1 (lists r t).2
  | .err e => .err e
mutual
def atomD : Nat → List Tk → Rd
  | 0, ks => .err ks
  | _ + 1, [] => .err []
  | f + 1, x :: r => match leafOf x with
    | some k => .ok (leaf k) r
    | none => if x = (5, [40]) then (match typeD f r with
        | .ok t q => if hd q 5 [41] then .ok t q.tail else .err q
        | .err e => .err e) else .err (x :: r)
def typeD : Nat → List Tk → Rd
  | 0, ks => .err ks
  | f + 1, ks => match (atomD (f + 1) ks).post with
    | .err e => .err e
    | .ok t r => if hd r 5 [42] then (match (atomD f r.tail).post with
        | .err e => .err e
        | .ok u q => if hd q 5 [45, 62] then (match typeD f q.tail with
            | .err e => .err e
            | .ok v p => .ok (.mk 9 0 [.mk 7 0 [t, u], v]) p) else .ok (.mk 7 0 [t, u]) q)
      else if hd r 5 [45, 62] then (match typeD f r.tail with
        | .err e => .err e
        | .ok v p => .ok (.mk 9 0 [t, v]) p)
      else .ok t r
end
/-- A type is whole: what is done with it, with all that it closes. -/
def finC (t : T) (r : List Tk) (ps : Ps) : Out := if topIs 1 (closeF t ps).2 && hd r 5 [41] then rest (closeF t ps).1 r.tail (closeF t ps).2.tail else .done (closeF t ps).1 r (closeF t ps).2
theorem finC_fun (a t : T) (r : List Tk) (ps : Ps) : finC t r ((3, a) :: ps) = finC (.mk 9 0 [a, t]) r ps := by
  unfold finC
  rw [closeF, if_pos rfl]
theorem finC_paren (t : T) (r : List Tk) (ps : Ps) : cont (finC t r ((1, noT) :: ps)) = if hd r 5 [41] then cont (rest t r.tail ps) else (none, r) := by
  have e : closeF t ((1, noT) :: ps) = (t, (1, noT) :: ps) := closeF_plain (by simp [topIs]) t
  unfold finC
  rw [e]
  simp only [topIs, decide_true, Bool.true_and, List.tail_cons]
  split <;> rfl
theorem rest_star2 {ps : Ps} (hp : topIs 2 ps = false) {t : T} {r : List Tk} (h : hd (lists r t).2 5 [42] = true) : rest t r ps = .more (lists r t).2.tail ((2, (lists r t).1) :: ps) := by
  rw [rest_eq, if_pos (by rw [hp, h]; rfl)]
theorem star_no {r : List Tk} {s : List UInt8} (h : hd r 5 [42] = true) (hs : s ≠ [42]) : hd r 5 s = false := by
  rw [hd_tail h]
  exact hd_no (fun e => hs (by injection e with _ e; exact e.symm))
theorem rest_arrow2 {ps : Ps} {t : T} {r : List Tk} (hs : topIs 2 ps = true ∨ hd (lists r t).2 5 [42] = false) (h : hd (lists r t).2 5 [45, 62] = true) : rest t r ps = .more (lists r t).2.tail ((3, (pairK (lists r t).1 ps).1) :: (pairK (lists r t).1 ps).2) := by
  rw [rest_eq, if_neg (by rcases hs with hs | hs <;> simp [hs]), if_pos h]
theorem rest_fin2 {ps : Ps} {t : T} {r : List Tk} (hs : topIs 2 ps = true ∨ hd (lists r t).2 5 [42] = false) (h : hd (lists r t).2 5 [45, 62] = false) : rest t r ps = finC (pairK (lists r t).1 ps).1 (lists r t).2 (pairK (lists r t).1 ps).2 := by
  rw [rest_eq, if_neg (by rcases hs with hs | hs <;> simp [hs]), if_neg (by rw [h]; simp)]
  rfl
/-- What the reading says where a type is asked for. -/
def toOut (d : Rd) (k : T → List Tk → Out) : Option T × List Tk := match d with | .ok t r => cont (k t r) | .err e => (none, e)
theorem atomD_lt : ∀ (f : Nat), (∀ ks t r, atomD f ks = .ok t r → r.length < ks.length) ∧ (∀ ks t r, typeD f ks = .ok t r → r.length < ks.length)
  | 0 => ⟨fun ks t r h => by simp [atomD] at h, fun ks t r h => by simp [typeD] at h⟩
  | f + 1 => by
    have ih := atomD_lt f
    have hA : ∀ ks t r, atomD (f + 1) ks = .ok t r → r.length < ks.length := by
      intro ks t r h
      cases ks with
      | nil => simp [atomD] at h
      | cons x q =>
        rw [atomD] at h
        split at h
        · injection h with _ h; subst h; simp
        · split at h
          · split at h
            · rename_i t' q' hq
              split at h
              · rename_i hh
                injection h with _ h
                have h1 := ih.2 _ _ _ hq
                have h2 := congrArg List.length (hd_tail hh)
                simp only [List.length_cons] at h2 ⊢
                subst h
                omega
              · cases h
            · cases h
          · cases h
    have hP : ∀ (g : Nat), (∀ ks t r, atomD g ks = .ok t r → r.length < ks.length) → ∀ ks t r, (atomD g ks).post = .ok t r → r.length < ks.length := by
      intro g hg ks t r h
      cases he : atomD g ks with
      | err e => rw [he] at h; cases h
      | ok t' r' =>
        rw [he] at h
        simp only [Rd.post] at h
        injection h with _ h
        have h1 := hg _ _ _ he
        have h2 := lists_le r' t'
        rw [← h]
        omega
    refine ⟨hA, fun ks t r h => ?_⟩
    rw [typeD] at h
    split at h
    · cases h
    · rename_i t1 r1 h1
      have l1 := hP _ hA _ _ _ h1
      split at h
      · rename_i hh
        have l2 := congrArg List.length (hd_tail hh)
        simp only [List.length_cons] at l2
        split at h
        · cases h
        · rename_i u q h3
          have l3 := hP _ ih.1 _ _ _ h3
          split at h
          · rename_i hq
            have l4 := congrArg List.length (hd_tail hq)
            simp only [List.length_cons] at l4
            split at h
            · cases h
            · rename_i v p h5
              have l5 := ih.2 _ _ _ h5
              injection h with _ h
              subst h
              omega
          · injection h with _ h
            subst h
            omega
      · split at h
        · rename_i hh
          have l2 := congrArg List.length (hd_tail hh)
          simp only [List.length_cons] at l2
          split at h
          · cases h
          · rename_i v p h5
            have l5 := ih.2 _ _ _ h5
            injection h with _ h
            subst h
            omega
        · injection h with _ h
          subst h
          omega
theorem read_grammar : ∀ (f : Nat), (∀ ks ps, ks.length < f → read ks ps = toOut (atomD f ks) (fun t r => rest t r ps)) ∧ (∀ ks ps, ks.length < f → topIs 2 ps = false → read ks ps = toOut (typeD f ks) (fun t r => finC t r ps))
  | 0 => ⟨fun _ _ h => absurd h (by omega), fun _ _ h => absurd h (by omega)⟩
  | f + 1 => by
    have ih := read_grammar f
    have hA : ∀ ks ps, ks.length < f + 1 → read ks ps = toOut (atomD (f + 1) ks) (fun t r => rest t r ps) := by
      intro ks ps hl
      cases ks with
      | nil => rw [read_nil, atomD]; rfl
      | cons x q =>
        simp only [List.length_cons] at hl
        rw [atomD]
        cases hx : leafOf x with
        | some k =>
          have hne : x ≠ (5, [40]) := fun e => by subst e; rw [show leafOf (5, [40]) = none from by decide] at hx; cases hx
          exact read_leaf hne hx q ps
        | none =>
          by_cases hp : x = (5, [40])
          · subst hp
            rw [read_paren, ih.2 q ((1, noT) :: ps) (by omega) (by simp [topIs])]
            simp only [if_true]
            cases hd' : typeD f q with
            | err e => rfl
            | ok t r =>
              show cont (finC t r ((1, noT) :: ps)) = _
              rw [finC_paren]
              simp only
              split <;> rfl
          · simp only [hp, if_false]
            rw [read_eq]
            have : atomK (x :: q) ps = (none, x :: q, ps) := by rw [atomK, if_neg hp, hx]
            rw [this]
            rfl
    refine ⟨hA, fun ks ps hl hp => ?_⟩
    rw [hA ks ps hl, typeD]
    have hlt := (atomD_lt (f + 1)).1 ks
    cases ha : atomD (f + 1) ks with
    | err e => rfl
    | ok t r =>
      have l1 := hlt t r ha
      have l2 := lists_le r t
      simp only [Rd.post]
      show cont (rest t r ps) = _
      cases hs : hd (lists r t).2 5 [42] with
      | true =>
        have l3 := congrArg List.length (hd_tail hs)
        simp only [List.length_cons] at l3
        rw [rest_star2 hp hs]
        simp only [if_true]
        show read _ _ = _
        rw [ih.1 _ _ (by omega)]
        have hlt2 := (atomD_lt f).1 (lists r t).2.tail
        cases hb : atomD f (lists r t).2.tail with
        | err e => rfl
        | ok u q =>
          have l4 := hlt2 u q hb
          have l5 := lists_le q u
          have ht : topIs 2 ((2, (lists r t).1) :: ps) = true := by simp [topIs]
          have hpk : pairK (lists q u).1 ((2, (lists r t).1) :: ps) = (.mk 7 0 [(lists r t).1, (lists q u).1], ps) := by rw [pairK, if_pos rfl]
          simp only
          show cont (rest u q ((2, (lists r t).1) :: ps)) = _
          cases hq : hd (lists q u).2 5 [45, 62] with
          | true =>
            have l6 := congrArg List.length (hd_tail hq)
            simp only [List.length_cons] at l6
            rw [rest_arrow2 (.inl ht) hq, hpk]
            simp only [if_true]
            show read _ _ = _
            rw [ih.2 _ _ (by omega) (by simp [topIs])]
            cases hv : typeD f (lists q u).2.tail with
            | err e => rfl
            | ok v p => exact congrArg cont (finC_fun _ _ _ _)
          | false =>
            rw [rest_fin2 (.inl ht) hq, hpk]
            rfl
      | false =>
        have hpk : pairK (lists r t).1 ps = ((lists r t).1, ps) := pairK_plain hp _
        cases hq : hd (lists r t).2 5 [45, 62] with
        | true =>
          have l6 := congrArg List.length (hd_tail hq)
          simp only [List.length_cons] at l6
          rw [rest_arrow2 (.inr hs) hq, hpk]
          simp only [if_true, Bool.false_eq_true, if_false]
          show read _ _ = _
          rw [ih.2 _ _ (by omega) (by simp [topIs])]
          cases hv : typeD f (lists r t).2.tail with
          | err e => rfl
          | ok v p => exact congrArg cont (finC_fun _ _ _ _)
        | false =>
          rw [rest_fin2 (.inr hs) hq, hpk]
          rfl
/-- The two readings are one. -/
theorem read_page (ks : List Tk) (f : Nat) (h : ks.length < f) : read ks [] = match typeD f ks with | .ok t r => (some t, r) | .err e => (none, e) := by
  rw [(read_grammar f).2 ks [] h rfl]
  cases typeD f ks with
  | err e => rfl
  | ok t r => rfl
end Nt
end Go.Proofs.YtideicoifinnoaaGreatDoor

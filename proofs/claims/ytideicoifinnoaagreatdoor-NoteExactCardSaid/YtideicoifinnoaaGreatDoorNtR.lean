/- The reading of a type, on tokens alone; the tokens of a closed type are read as that type. -/
import Derived.Test.YtideicoifinnoaaGreatDoorNtQ
namespace Go.Proofs.YtideicoifinnoaaGreatDoor
open Tp (T)
namespace Nt

abbrev Ps := List (Int × T)
def hd (ks : List Tk) (q : Nat) (s : List UInt8) : Bool := match ks with | x :: _ => decide (x = (q, s)) | [] => false
def lists : List Tk → T → T × List Tk
  | x :: r, t => if x = (2, sWord) then lists r (.mk 8 0 [t]) else (t, x :: r)
  | [], t => (t, [])
def closeF : T → Ps → T × Ps
  | t, (k, f) :: r => if k = 3 then closeF (.mk 9 0 [f, t]) r else (t, (k, f) :: r)
  | t, [] => (t, [])
def pairK : T → Ps → T × Ps
  | t, (k, f) :: r => if k = 2 then (.mk 7 0 [f, t], r) else (t, (k, f) :: r)
  | t, [] => (t, [])
def topIs (k : Int) (ps : Ps) : Bool := match ps with | (q, _) :: _ => decide (q = k) | [] => false
inductive Out where
  | more (ks : List Tk) (ps : Ps)
  | done (t : T) (ks : List Tk) (ps : Ps)
/-- What stands behind an atom. -/
def restF : Nat → T → List Tk → Ps → Out
  | 0, t, ks, ps => .done t ks ps
  | f + 1, t, ks, ps =>
    if !topIs 2 ps && hd (lists ks t).2 5 [42] then .more (lists ks t).2.tail ((2, (lists ks t).1) :: ps)
    else if hd (lists ks t).2 5 [45, 62] then .more (lists ks t).2.tail ((3, (pairK (lists ks t).1 ps).1) :: (pairK (lists ks t).1 ps).2)
    else
      let c := closeF (pairK (lists ks t).1 ps).1 (pairK (lists ks t).1 ps).2
      if topIs 1 c.2 && hd (lists ks t).2 5 [41] then restF f c.1 (lists ks t).2.tail c.2.tail else .done c.1 (lists ks t).2 c.2
def leafOf (x : Tk) : Option Nat := if x = (2, sInt) then some 1 else if x = (2, sBool) then some 2 else if x = (2, sStr) then some 3 else if x = (2, sUnit) then some 4 else if x = (5, sDyn) then some 5 else none
def leaf (k : Nat) : T := .mk (k : Int) 0 []
def atomK : List Tk → Ps → Option Nat × List Tk × Ps
  | x :: r, ps => if x = (5, [40]) then atomK r ((1, noT) :: ps) else match leafOf x with | some k => (some k, r, ps) | none => (none, x :: r, ps)
  | [], ps => (none, [], ps)
theorem lists_le : ∀ (ks : List Tk) (t : T), (lists ks t).2.length ≤ ks.length
  | [], _ => Nat.le_refl _
  | x :: r, t => by
    unfold lists
    split
    · exact Nat.le_trans (lists_le r _) (by simp)
    · exact Nat.le_refl _
theorem hd_tail {ks : List Tk} {q : Nat} {s : List UInt8} (h : hd ks q s = true) : ks = (q, s) :: ks.tail := by
  unfold hd at h
  split at h
  · rename_i x r
    rw [decide_eq_true_eq] at h
    rw [h]; rfl
  · cases h
/-- More fuel changes nothing. -/
theorem restF_more : ∀ (f g : Nat) (t : T) (ks : List Tk) (ps : Ps), ks.length < f → ks.length < g → restF f t ks ps = restF g t ks ps
  | 0, _, _, _, _, h, _ => absurd h (by omega)
  | _, 0, _, _, _, _, h => absurd h (by omega)
  | f + 1, g + 1, t, ks, ps, hf, hg => by
    simp only [restF]
    split
    · rfl
    · split
      · rfl
      · split
        · rename_i h
          simp only [Bool.and_eq_true] at h
          have h1 := congrArg List.length (hd_tail h.2)
          have h2 := lists_le ks t
          simp only [List.length_cons] at h1
          exact restF_more f g _ _ _ (by omega) (by omega)
        · rfl
def rest (t : T) (ks : List Tk) (ps : Ps) : Out := restF (ks.length + 1) t ks ps
theorem rest_eq (t : T) (ks : List Tk) (ps : Ps) : rest t ks ps =
    if !topIs 2 ps && hd (lists ks t).2 5 [42] then .more (lists ks t).2.tail ((2, (lists ks t).1) :: ps)
    else if hd (lists ks t).2 5 [45, 62] then .more (lists ks t).2.tail ((3, (pairK (lists ks t).1 ps).1) :: (pairK (lists ks t).1 ps).2)
    else if topIs 1 (closeF (pairK (lists ks t).1 ps).1 (pairK (lists ks t).1 ps).2).2 && hd (lists ks t).2 5 [41] then
      rest (closeF (pairK (lists ks t).1 ps).1 (pairK (lists ks t).1 ps).2).1 (lists ks t).2.tail (closeF (pairK (lists ks t).1 ps).1 (pairK (lists ks t).1 ps).2).2.tail
      else .done (closeF (pairK (lists ks t).1 ps).1 (pairK (lists ks t).1 ps).2).1 (lists ks t).2 (closeF (pairK (lists ks t).1 ps).1 (pairK (lists ks t).1 ps).2).2 := by
  rw [show rest t ks ps = restF (ks.length + 1) t ks ps from rfl]
  simp only [restF]
  split
  · rfl
  · split
    · rfl
    · split
      · rename_i h
        simp only [Bool.and_eq_true] at h
        have h1 := congrArg List.length (hd_tail h.2)
        have h2 := lists_le ks t
        simp only [List.length_cons] at h1
        unfold rest
        exact restF_more _ _ _ _ _ (by omega) (by omega)
      · rfl
theorem atomK_le : ∀ (ks : List Tk) (ps : Ps), (atomK ks ps).2.1.length ≤ ks.length ∧ ∀ k, (atomK ks ps).1 = some k → (atomK ks ps).2.1.length < ks.length
  | [], _ => ⟨Nat.le_refl _, fun k h => by cases h⟩
  | x :: r, ps => by
    unfold atomK
    split
    · have := atomK_le r ((1, noT) :: ps)
      exact ⟨by simp; omega, fun k h => by have := this.2 k h; simp; omega⟩
    · split
      · exact ⟨by simp, fun _ _ => by simp⟩
      · exact ⟨Nat.le_refl _, fun k h => by cases h⟩
theorem restF_le : ∀ (f : Nat) (t : T) (ks : List Tk) (ps : Ps) (ks' : List Tk) (ps' : Ps), restF f t ks ps = .more ks' ps' → ks'.length < ks.length
  | 0, _, _, _, _, _, h => by cases h
  | f + 1, t, ks, ps, ks', ps', h => by
    have h2 := lists_le ks t
    simp only [restF] at h
    split at h
    · rename_i hc
      simp only [Bool.and_eq_true] at hc
      have h1 := congrArg List.length (hd_tail hc.2)
      simp only [List.length_cons] at h1
      injection h with h _
      subst h; omega
    · split at h
      · rename_i hc
        have h1 := congrArg List.length (hd_tail hc)
        simp only [List.length_cons] at h1
        injection h with h _
        subst h; omega
      · split at h
        · rename_i hc
          simp only [Bool.and_eq_true] at hc
          have h1 := congrArg List.length (hd_tail hc.2)
          simp only [List.length_cons] at h1
          have := restF_le f _ _ _ _ _ h
          omega
        · cases h
def readF : Nat → List Tk → Ps → Option T × List Tk
  | 0, ks, _ => (none, ks)
  | f + 1, ks, ps => match (atomK ks ps).1 with
    | none => (none, (atomK ks ps).2.1)
    | some q => match rest (leaf q) (atomK ks ps).2.1 (atomK ks ps).2.2 with
      | .more ks' ps' => readF f ks' ps'
      | .done t ks' ps' => if ps'.isEmpty then (some t, ks') else (none, ks')
theorem readF_more : ∀ (f g : Nat) (ks : List Tk) (ps : Ps), ks.length < f → ks.length < g → readF f ks ps = readF g ks ps
  | 0, _, _, _, h, _ => absurd h (by omega)
  | _, 0, _, _, _, h => absurd h (by omega)
  | f + 1, g + 1, ks, ps, hf, hg => by
    have h1 := atomK_le ks ps
    simp only [readF]
    split
    · rfl
    · rename_i q hq
      have h2 := h1.2 q hq
      split
      · rename_i ks' ps' hr
        have h3 := restF_le _ _ _ _ _ _ hr
        exact readF_more f g _ _ (by omega) (by omega)
      · rfl
/-- The reading: the type, if there is one; what is left. -/
def read (ks : List Tk) (ps : Ps) : Option T × List Tk := readF (ks.length + 1) ks ps
def cont : Out → Option T × List Tk
  | .more ks ps => read ks ps
  | .done t ks ps => if ps.isEmpty then (some t, ks) else (none, ks)
theorem read_eq (ks : List Tk) (ps : Ps) : read ks ps = match (atomK ks ps).1 with
    | none => (none, (atomK ks ps).2.1)
    | some q => cont (rest (leaf q) (atomK ks ps).2.1 (atomK ks ps).2.2) := by
  rw [show read ks ps = readF (ks.length + 1) ks ps from rfl]
  have h1 := atomK_le ks ps
  simp only [readF]
  split
  · rfl
  · rename_i q hq
    have h2 := h1.2 q hq
    split
    · rename_i ks' ps' hr
      rw [hr]
      have h3 := restF_le _ _ _ _ _ _ hr
      show readF ks.length ks' ps' = readF (ks'.length + 1) ks' ps'
      exact readF_more _ _ _ _ (by omega) (by omega)
    · rename_i t' ks' ps' hr
      rw [hr]
      rfl
theorem read_paren (r : List Tk) (ps : Ps) : read ((5, [40]) :: r) ps = read r ((1, noT) :: ps) := by
  rw [read_eq, read_eq]
  have : atomK ((5, [40]) :: r) ps = atomK r ((1, noT) :: ps) := by
    rw [atomK, if_pos rfl]
  rw [this]
/-- What does not go on a type. -/
def StopK (r : List Tk) : Prop := hd r 2 sWord = false ∧ hd r 5 [42] = false ∧ hd r 5 [45, 62] = false
def Plain (ps : Ps) : Prop := topIs 2 ps = false ∧ topIs 3 ps = false
theorem lists_stop {r : List Tk} (h : hd r 2 sWord = false) (t : T) : lists r t = (t, r) := by
  cases r with
  | nil => rfl
  | cons x r =>
    unfold hd at h
    rw [decide_eq_false_iff_not] at h
    rw [lists, if_neg h]
theorem pairK_plain {ps : Ps} (h : topIs 2 ps = false) (t : T) : pairK t ps = (t, ps) := by
  cases ps with
  | nil => rfl
  | cons x r =>
    obtain ⟨k, f⟩ := x
    unfold topIs at h
    rw [decide_eq_false_iff_not] at h
    rw [pairK, if_neg h]
theorem closeF_plain {ps : Ps} (h : topIs 3 ps = false) (t : T) : closeF t ps = (t, ps) := by
  cases ps with
  | nil => rfl
  | cons x r =>
    obtain ⟨k, f⟩ := x
    unfold topIs at h
    rw [decide_eq_false_iff_not] at h
    rw [closeF, if_neg h]
/-- A type is whole: what is done with it. -/
def fin (t : T) (r : List Tk) (ps : Ps) : Out := if topIs 1 ps && hd r 5 [41] then rest t r.tail ps.tail else .done t r ps
theorem rest_plain {r : List Tk} {ps : Ps} (hr : StopK r) (hp : Plain ps) (t : T) : rest t r ps = fin t r ps := by
  rw [rest_eq, lists_stop hr.1]
  simp only [hr.2.1, hr.2.2, Bool.and_false, Bool.false_eq_true, if_false]
  rw [pairK_plain hp.1, closeF_plain hp.2]
  rfl
theorem rest_list (y : T) (r : List Tk) (ps : Ps) : rest y ((2, sWord) :: r) ps = rest (.mk 8 0 [y]) r ps := by
  rw [rest_eq, rest_eq (.mk 8 0 [y])]
  have : lists ((2, sWord) :: r) y = lists r (.mk 8 0 [y]) := by rw [lists, if_pos rfl]
  rw [this]
theorem hd_no {x : Tk} {r : List Tk} {q : Nat} {s : List UInt8} (h : x ≠ (q, s)) : hd (x :: r) q s = false := by
  show decide (x = (q, s)) = false
  exact decide_eq_false h
theorem rest_star {ps : Ps} (hp : Plain ps) (a : T) (r : List Tk) : rest a ((5, [42]) :: r) ps = .more r ((2, a) :: ps) := by
  rw [rest_eq, lists_stop (hd_no (by decide))]
  rw [if_pos (by rw [hp.1]; unfold hd; simp)]
  rfl
theorem rest_arrow {ps : Ps} (hp : Plain ps) (a : T) (r : List Tk) : rest a ((5, [45, 62]) :: r) ps = .more r ((3, a) :: ps) := by
  rw [rest_eq, lists_stop (hd_no (by decide))]
  rw [if_neg (by unfold hd; simp), if_pos (by unfold hd; simp), pairK_plain hp.1]
  rfl
theorem rest_pair {r : List Tk} {ps : Ps} (hr : StopK r) (hp : Plain ps) (a b : T) : rest b r ((2, a) :: ps) = fin (.mk 7 0 [a, b]) r ps := by
  rw [rest_eq, lists_stop hr.1]
  simp only [hr.2.1, hr.2.2, Bool.and_false, Bool.false_eq_true, if_false]
  have : pairK b ((2, a) :: ps) = (.mk 7 0 [a, b], ps) := by rw [pairK, if_pos rfl]
  rw [this]
  simp only
  rw [closeF_plain hp.2]
  rfl
theorem rest_fun {r : List Tk} {ps : Ps} (hr : StopK r) (hp : Plain ps) (a b : T) : rest b r ((3, a) :: ps) = fin (.mk 9 0 [a, b]) r ps := by
  rw [rest_eq, lists_stop hr.1]
  simp only [hr.2.1, hr.2.2, Bool.and_false, Bool.false_eq_true, if_false]
  rw [pairK_plain (by simp [topIs])]
  have : closeF b ((3, a) :: ps) = (.mk 9 0 [a, b], ps) := by rw [closeF, if_pos rfl, closeF_plain hp.2]
  simp only [this]
  rfl
theorem stopK_paren (r : List Tk) : StopK ((5, [41]) :: r) := ⟨hd_no (by decide), hd_no (by decide), hd_no (by decide)⟩
theorem plain_paren (ps : Ps) : Plain ((1, noT) :: ps) := ⟨by simp [topIs], by simp [topIs]⟩
theorem fin_paren (t : T) (r : List Tk) (ps : Ps) : fin t ((5, [41]) :: r) ((1, noT) :: ps) = rest t r ps := by
  unfold fin
  rw [if_pos (by simp [topIs, hd])]
  rfl
/-- A right closed leaf. -/
theorem leaf_cases (t : T) (hr : Tp.right t = true) (hc : Tp.without 6 t = true) (h0 : t.kids = []) : ∃ k : Nat, t = leaf k ∧ ∃ x, tk t = [x] ∧ x ≠ (5, [40]) ∧ leafOf x = some k := by
  cases t with
  | mk k m l =>
    simp only [Tp.T.kids] at h0
    subst h0
    rw [tk_leaf]
    simp only [Tp.without, Bool.and_eq_true, Bool.not_eq_true', decide_eq_false_iff_not] at hc
    simp only [Tp.right, Tp.nodeRight, Bool.and_eq_true, Bool.or_eq_true, decide_eq_true_eq, List.length_nil] at hr
    obtain ⟨⟨⟨⟨h1, _⟩, _⟩, hm⟩, _⟩ := hr
    have h6 := hc.1
    have hm0 : m = 0 := hm.resolve_left h6
    subst hm0
    have h1' : Tp.arity k = 0 := by simpa using h1
    unfold Tp.arity at h1'
    clear h1
    have hk : k = 1 ∨ k = 2 ∨ k = 3 ∨ k = 4 ∨ k = 5 := by
      by_cases h7 : k = 1 ∨ k = 2 ∨ k = 3 ∨ k = 4 ∨ k = 5 ∨ k = 6
      · omega
      · rw [if_neg h7] at h1'
        by_cases h8 : k = 8
        · rw [if_pos h8] at h1'; cases h1'
        · rw [if_neg h8] at h1'
          by_cases h9 : k = 7 ∨ k = 9
          · rw [if_pos h9] at h1'; cases h1'
          · rw [if_neg h9] at h1'; cases h1'
    rcases hk with rfl | rfl | rfl | rfl | rfl
    · exact ⟨1, rfl, _, rfl, by decide, by decide⟩
    · exact ⟨2, rfl, _, rfl, by decide, by decide⟩
    · exact ⟨3, rfl, _, rfl, by decide, by decide⟩
    · exact ⟨4, rfl, _, rfl, by decide, by decide⟩
    · exact ⟨5, rfl, _, rfl, by decide, by decide⟩
theorem read_leaf {x : Tk} {k : Nat} (hx : x ≠ (5, [40])) (hk : leafOf x = some k) (r : List Tk) (ps : Ps) : read (x :: r) ps = cont (rest (leaf k) r ps) := by
  rw [read_eq]
  have : atomK (x :: r) ps = (some k, r, ps) := by rw [atomK, if_neg hx, hk]
  rw [this]
/-- The tokens of a type where a parenthesis or nothing stands ahead; of a kid, wherever it stands. -/
theorem read_tk : ∀ (n : Nat) (t : T), Tp.size t ≤ n → Tp.right t = true → Tp.without 6 t = true →
    (∀ r ps, StopK r → Plain ps → read (tk t ++ r) ps = cont (fin t r ps)) ∧ (∀ r ps, read (inTk t ++ r) ps = cont (rest t r ps))
  | 0, t, h, _, _ => by have := Tp.size_pos t; omega
  | n + 1, t, hn, hr, hc => by
    rcases (right_cases t hr).2 with h0 | ⟨m, x, rfl, hx⟩ | ⟨k, m, x, y, hk, rfl, hx, hy⟩
    · obtain ⟨k, e1, x, e2, e3, e4⟩ := leaf_cases t hr hc h0
      have hi : inTk t = tk t := by unfold inTk parenTk; rw [h0]; rfl
      rw [hi, e2]
      have key : ∀ r ps, read ([x] ++ r) ps = cont (rest t r ps) := fun r ps => by rw [e1]; exact read_leaf e3 e4 r ps
      exact ⟨fun r ps h1 h2 => by rw [key, rest_plain h1 h2], key⟩
    · simp only [Tp.size, Tp.sizes] at hn
      simp only [Tp.without, Tp.withouts, Bool.and_eq_true] at hc
      have hm : m = 0 := by
        simp only [Tp.right, Tp.nodeRight, Bool.and_eq_true, Bool.or_eq_true, decide_eq_true_eq] at hr
        exact hr.1.2.resolve_left (by omega)
      subst hm
      have ih := (read_tk n x (by omega) hx hc.2.1).2
      have key : ∀ r ps, StopK r → Plain ps → read (tk (.mk 8 0 [x]) ++ r) ps = cont (fin (.mk 8 0 [x]) r ps) := fun r ps h1 h2 => by
        rw [tk_one, List.append_assoc, ih, List.singleton_append, rest_list, rest_plain h1 h2]
      refine ⟨key, fun r ps => ?_⟩
      show read ((5, [40]) :: (tk (.mk 8 0 [x]) ++ [(5, [41])]) ++ r) ps = _
      rw [List.cons_append, read_paren, List.append_assoc, List.singleton_append, key _ _ (stopK_paren r) (plain_paren ps), fin_paren]
    · simp only [Tp.size, Tp.sizes] at hn
      simp only [Tp.without, Tp.withouts, Bool.and_eq_true] at hc
      have hm : m = 0 := by
        simp only [Tp.right, Tp.nodeRight, Bool.and_eq_true, Bool.or_eq_true, decide_eq_true_eq] at hr
        exact hr.1.2.resolve_left (by omega)
      subst hm
      have ihx := (read_tk n x (by omega) hx hc.2.1).2
      have ihy := (read_tk n y (by omega) hy hc.2.2.1).2
      have key : ∀ r ps, StopK r → Plain ps → read (tk (.mk k 0 [x, y]) ++ r) ps = cont (fin (.mk k 0 [x, y]) r ps) := fun r ps h1 h2 => by
        rw [tk_two, List.append_assoc, ihx, List.cons_append]
        rcases hk with rfl | rfl
        · rw [show sepS 7 = [42] from rfl, rest_star h2]
          show read (inTk y ++ r) ((2, x) :: ps) = _
          rw [ihy, rest_pair h1 h2]
        · rw [show sepS 9 = [45, 62] from rfl, rest_arrow h2]
          show read (inTk y ++ r) ((3, x) :: ps) = _
          rw [ihy, rest_fun h1 h2]
      refine ⟨key, fun r ps => ?_⟩
      show read ((5, [40]) :: (tk (.mk k 0 [x, y]) ++ [(5, [41])]) ++ r) ps = _
      rw [List.cons_append, read_paren, List.append_assoc, List.singleton_append, key _ _ (stopK_paren r) (plain_paren ps), fin_paren]
/-- The tokens of a closed type are read as that type. -/
theorem read_back (t : T) (hr : Tp.right t = true) (hc : Tp.without 6 t = true) (r : List Tk) (h : StopK r) : read (tk t ++ r) [] = (some t, r) := by
  rw [(read_tk _ t (Nat.le_refl _) hr hc).1 r [] h ⟨rfl, rfl⟩]
  rfl
end Nt
end Go.Proofs.YtideicoifinnoaaGreatDoor

/- Plain facts on substitution: what is put for the variables of a type. -/
import Derived.Test.YtaaapdfdedknfaaAgP
namespace Go.Proofs.Ytaaapdfdedknfaa.Tp
/-- A type for a number. -/
abbrev Bd := Int × T
/-- What the first bind of a number says. -/
def look : List Bd → Int → Option T
  | [], _ => none
  | b :: r, n => if b.1 = n then some b.2 else look r n
mutual
/-- Types put for variables. -/
def sub (L : List Bd) : T → T | .mk k n l => if k = 6 then (look L n).getD (.mk k n l) else .mk k n (subs L l)
def subs (L : List Bd) : List T → List T | [] => [] | t :: r => sub L t :: subs L r
end
theorem subs_len (L : List Bd) : ∀ l : List T, (subs L l).length = l.length
  | [] => rfl
  | t :: r => by simp [subs, subs_len L r]
theorem subs_get (L : List Bd) : ∀ (l : List T) (i : Nat) (h : i < l.length) (h' : i < (subs L l).length), (subs L l)[i] = sub L l[i]
  | [], i, h, _ => by simp at h
  | t :: r, 0, _, _ => rfl
  | t :: r, i + 1, h, _ => by simp only [subs, List.getElem_cons_succ]; exact subs_get L r i (by simpa using h) _
theorem sub_var {L : List Bd} {n : Int} {l : List T} {u : T} (h : look L n = some u) : sub L (.mk 6 n l) = u := by simp [sub, h]
theorem sub_node {L : List Bd} {k n : Int} {l : List T} (h : ¬ k = 6) : sub L (.mk k n l) = .mk k n (subs L l) := by simp [sub, h]
theorem look_append (L M : List Bd) (n : Int) : look (L ++ M) n = (look L n).or (look M n) := by
  induction L with
  | nil => simp [look]
  | cons b r ih =>
    simp only [List.cons_append, look]
    split
    · rfl
    · exact ih
theorem look_mem {L : List Bd} {n : Int} {u : T} (h : look L n = some u) : (n, u) ∈ L := by
  induction L with
  | nil => simp [look] at h
  | cons b r ih =>
    simp only [look] at h
    split at h
    · rename_i e; injection h with h; subst h; subst e; simp
    · exact List.mem_cons_of_mem _ (ih h)
theorem look_none {L : List Bd} {n : Int} : look L n = none ↔ ¬ n ∈ L.map Prod.fst := by
  induction L with
  | nil => simp [look]
  | cons b r ih =>
    simp only [look, List.map_cons, List.mem_cons, not_or]
    split
    · rename_i e; simp [e]
    · rename_i e; rw [ih]; exact ⟨fun h => ⟨fun h2 => e h2.symm, h⟩, fun h => h.2⟩
/-- A bind's type is right, its number a variable's. -/
def bdRight (b : Bd) : Bool := decide (0 ≤ b.1) && decide (b.1 ≤ 1048576) && right b.2
theorem look_right {L : List Bd} (h : ∀ b ∈ L, right b.2 = true) {n : Int} {u : T} (hl : look L n = some u) : right u = true := h _ (look_mem hl)
mutual
theorem sub_right {L : List Bd} (h : ∀ b ∈ L, right b.2 = true) : ∀ t : T, right t = true → right (sub L t) = true
  | .mk k n l, ht => by
    by_cases hk : k = 6
    · subst hk
      simp only [sub, if_true]
      cases hl : look L n with
      | none => exact ht
      | some u => exact look_right h hl
    · rw [sub_node hk]
      have h1 := ht
      simp only [right, Bool.and_eq_true] at h1 ⊢
      rw [subs_len]
      exact ⟨h1.1, subs_right h l h1.2⟩
theorem subs_right {L : List Bd} (h : ∀ b ∈ L, right b.2 = true) : ∀ l : List T, rights l = true → rights (subs L l) = true
  | [], _ => rfl
  | t :: r, hl => by
    simp only [rights, Bool.and_eq_true] at hl
    simp only [subs, rights, Bool.and_eq_true]
    exact ⟨sub_right h t hl.1, subs_right h r hl.2⟩
end
mutual
theorem sub_nil : ∀ t : T, sub [] t = t
  | .mk k n l => by
    by_cases hk : k = 6
    · simp [sub, look, hk]
    · rw [sub_node hk, subs_nil l]
theorem subs_nil : ∀ l : List T, subs [] l = l
  | [] => rfl
  | t :: r => by simp only [subs, sub_nil t, subs_nil r]
end
mutual
/-- What is closed stays. -/
theorem sub_closed (L : List Bd) : ∀ t : T, without 6 t = true → sub L t = t
  | .mk k n l, h => by
    simp only [without, Bool.and_eq_true, Bool.not_eq_true', decide_eq_false_iff_not] at h
    rw [sub_node h.1, subs_closed L l h.2]
theorem subs_closed (L : List Bd) : ∀ l : List T, withouts 6 l = true → subs L l = l
  | [], _ => rfl
  | t :: r, h => by
    simp only [withouts, Bool.and_eq_true] at h
    simp only [subs, sub_closed L t h.1, subs_closed L r h.2]
end
mutual
/-- One behind the other is both at once, where what is put first is closed. -/
theorem sub_twice {L : List Bd} (M : List Bd) (h : ∀ b ∈ L, without 6 b.2 = true) : ∀ t : T, right t = true → sub M (sub L t) = sub (L ++ M) t
  | .mk k n l, ht => by
    by_cases hk : k = 6
    · subst hk
      simp only [sub, if_true, look_append]
      cases hl : look L n with
      | none => simp only [Option.getD_none, Option.none_or, sub, if_true]
      | some u => simp only [Option.getD_some, Option.some_or]; exact sub_closed M u (h _ (look_mem hl))
    · rw [sub_node hk, sub_node hk, sub_node hk, subs_twice M h l (right_node ht).2.1]
theorem subs_twice {L : List Bd} (M : List Bd) (h : ∀ b ∈ L, without 6 b.2 = true) : ∀ l : List T, rights l = true → subs M (subs L l) = subs (L ++ M) l
  | [], _ => rfl
  | t :: r, hl => by
    simp only [rights, Bool.and_eq_true] at hl
    simp only [subs, sub_twice M h t hl.1, subs_twice M h r hl.2]
end
/-- Composition, whatever is put. -/
def comp (L M : List Bd) : List Bd := L.map fun b => (b.1, sub M b.2)
theorem look_comp (L M : List Bd) (n : Int) : look (comp L M) n = (look L n).map (sub M) := by
  induction L with
  | nil => rfl
  | cons b r ih =>
    simp only [comp, List.map_cons, look]
    split
    · rfl
    · exact ih
mutual
theorem sub_comp (L M : List Bd) : ∀ t : T, right t = true → sub M (sub L t) = sub (comp L M ++ M) t
  | .mk k n l, ht => by
    by_cases hk : k = 6
    · subst hk
      simp only [sub, if_true, look_append, look_comp]
      cases hl : look L n with
      | none => simp only [Option.getD_none, Option.map_none, Option.none_or, sub, if_true]
      | some u => simp only [Option.getD_some, Option.map_some, Option.some_or]
    · rw [sub_node hk, sub_node hk, sub_node hk, subs_comp L M l (right_node ht).2.1]
theorem subs_comp (L M : List Bd) : ∀ l : List T, rights l = true → subs M (subs L l) = subs (comp L M ++ M) l
  | [], _ => rfl
  | t :: r, hl => by
    simp only [rights, Bool.and_eq_true] at hl
    simp only [subs, sub_comp L M t hl.1, subs_comp L M r hl.2]
end
mutual
/-- Does a number stand in a type? -/
def occ (n : Int) : T → Bool | .mk k m l => (decide (k = 6) && decide (m = n)) || occs n l
def occs (n : Int) : List T → Bool | [] => false | t :: r => occ n t || occs n r
end
theorem mem_addVar (k n m : Int) (acc : List Int) : m ∈ addVar k n acc ↔ m ∈ acc ∨ (k = 6 ∧ n = m) := by
  unfold addVar
  split
  · rename_i h
    simp only [List.mem_append, List.mem_singleton]
    exact ⟨fun h2 => h2.imp id fun e => ⟨h.1, e.symm⟩, fun h2 => h2.imp id fun e => e.2.symm⟩
  · rename_i h
    refine ⟨.inl, fun h2 => h2.elim id fun e => ?_⟩
    by_cases hn : n ∈ acc
    · exact e.2 ▸ hn
    · exact absurd ⟨e.1, hn⟩ h
mutual
theorem mem_vars : ∀ (t : T) (acc : List Int) (m : Int), m ∈ vars t acc ↔ m ∈ acc ∨ occ m t = true
  | .mk k n l, acc, m => by
    simp only [vars, occ, Bool.or_eq_true, Bool.and_eq_true, decide_eq_true_eq]
    rw [mem_varss l, mem_addVar, or_assoc]
theorem mem_varss : ∀ (l : List T) (acc : List Int) (m : Int), m ∈ varss l acc ↔ m ∈ acc ∨ occs m l = true
  | [], acc, m => by simp [varss, occs]
  | t :: r, acc, m => by simp only [varss, occs, Bool.or_eq_true]; rw [mem_varss r, mem_vars t, or_assoc]
end
theorem addVar_nodup {k n : Int} {acc : List Int} (h : acc.Nodup) : (addVar k n acc).Nodup := by
  unfold addVar
  split
  · rename_i hc
    rw [List.nodup_append]
    refine ⟨h, by simp, fun a ha b hb => ?_⟩
    rw [List.mem_singleton] at hb
    subst hb
    exact fun e => hc.2 (e ▸ ha)
  · exact h
mutual
theorem vars_nodup : ∀ (t : T) (acc : List Int), acc.Nodup → (vars t acc).Nodup
  | .mk k n l, acc, h => by simp only [vars]; exact varss_nodup l _ (addVar_nodup h)
theorem varss_nodup : ∀ (l : List T) (acc : List Int), acc.Nodup → (varss l acc).Nodup
  | [], _, h => by simpa [varss] using h
  | t :: r, acc, h => by simp only [varss]; exact varss_nodup r _ (vars_nodup t acc h)
end
mutual
/-- Only what stands there counts. -/
theorem sub_congr {L M : List Bd} : ∀ t : T, (∀ n, occ n t = true → look L n = look M n) → sub L t = sub M t
  | .mk k n l, h => by
    by_cases hk : k = 6
    · subst hk
      simp only [sub, if_true]
      rw [h n (by simp [occ])]
    · rw [sub_node hk, sub_node hk, subs_congr l (fun m hm => h m (by simp [occ, hm]))]
theorem subs_congr {L M : List Bd} : ∀ l : List T, (∀ n, occs n l = true → look L n = look M n) → subs L l = subs M l
  | [], _ => rfl
  | t :: r, h => by
    simp only [subs]
    rw [sub_congr t (fun n hn => h n (by simp [occs, hn])), subs_congr r (fun n hn => h n (by simp [occs, hn]))]
end
mutual
/-- Two substitutions that give one type agree on what stands there. -/
theorem sub_eq_look {L M : List Bd} : ∀ t : T, right t = true → sub L t = sub M t → ∀ n, occ n t = true → (look L n).getD (.mk 6 n []) = (look M n).getD (.mk 6 n [])
  | .mk k m l, ht, h, n, hn => by
    by_cases hk : k = 6
    · subst hk
      have hl : l = [] := by
        have := (right_node ht).1
        simp [arity] at this
        exact List.eq_nil_of_length_eq_zero (by omega)
      subst hl
      simp only [occ, occs, Bool.or_false, Bool.and_eq_true, decide_eq_true_eq] at hn
      simp only [sub, if_true] at h
      rw [hn.2] at h
      exact h
    · rw [sub_node hk, sub_node hk] at h
      injection h with _ _ h3
      simp only [occ, Bool.or_eq_true, Bool.and_eq_true, decide_eq_true_eq] at hn
      exact subs_eq_look l (right_node ht).2.1 h3 n (hn.resolve_left fun e => hk e.1)
theorem subs_eq_look {L M : List Bd} : ∀ l : List T, rights l = true → subs L l = subs M l → ∀ n, occs n l = true → (look L n).getD (.mk 6 n []) = (look M n).getD (.mk 6 n [])
  | [], _, _, n, hn => by simp [occs] at hn
  | t :: r, hr, h, n, hn => by
    simp only [rights, Bool.and_eq_true] at hr
    simp only [subs, List.cons.injEq] at h
    simp only [occs, Bool.or_eq_true] at hn
    rcases hn with hn | hn
    · exact sub_eq_look t hr.1 h.1 n hn
    · exact subs_eq_look r hr.2 h.2 n hn
end
end Go.Proofs.Ytaaapdfdedknfaa.Tp

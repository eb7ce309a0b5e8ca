/- Plain facts on substitution: what is put for the variables of a type. Plain facts on matching: the static types for the variables of a type that make it another one. Plain facts on types with their variables numbered anew. Two types are the same numbered anew just if each is matched with the other one. When one type is under another one: with static closed types for the variables of both it is below it. Steps of a search for what makes one type be below another: what each tells of the types that are put for the variables. -/
import Derived.Test.YtncdbbjkafgphaaAgR
import Derived.Test.YtncdbbjkafgphaaPrP
import Derived.Test.YtncdbbjkafgphaaTqS
namespace Go.Proofs.Ytncdbbjkafgphaa.Tp
/-- A type for a number. -/
abbrev Bd := Int × T
/-- What the first bind of a number says. -/
def look : List Bd → Int → Option T
  | [], _ => none
  | b :: r, n => if b.1 = n then some b.2 else look r n
mutual
/-- Types put for variables. -/
def sub (L : List Bd) : T → T | .mk k n l => if k = 6 then (look L n).getD (.mk k n l) else .mk k n (subs L l)
def subs (L : List Bd) : List T → List T | [] => [] | t :: r => sub L t :: subs L r
end
theorem subs_len (L : List Bd) : ∀ l : List T, (subs L l).length = l.length
  | [] => rfl
  | t :: r => by simp [subs, subs_len L r]
theorem subs_get (L : List Bd) : ∀ (l : List T) (i : Nat) (h : i < l.length) (h' : i < (subs L l).length), (subs L l)[i] = sub L l[i]
  | [], i, h, _ => by simp at h
  | t :: r, 0, _, _ => rfl
  | t :: r, i + 1, h, _ => by simp only [subs, List.getElem_cons_succ]; exact subs_get L r i (by simpa using h) _
theorem sub_var {L : List Bd} {n : Int} {l : List T} {u : T} (h : look L n = some u) : sub L (.mk 6 n l) = u := by simp [sub, h]
theorem sub_node {L : List Bd} {k n : Int} {l : List T} (h : ¬ k = 6) : sub L (.mk k n l) = .mk k n (subs L l) := by simp [sub, h]
theorem look_append (L M : List Bd) (n : Int) : look (L ++ M) n = (look L n).or (look M n) := by
  induction L with
  | nil => simp [look]
  | cons b r ih =>
    simp only [List.cons_append, look]
    split
    · rfl
    · exact ih
theorem look_mem {L : List Bd} {n : Int} {u : T} (h : look L n = some u) : (n, u) ∈ L := by
  induction L with
  | nil => simp [look] at h
  | cons b r ih =>
    simp only [look] at h
    split at h
    · rename_i e; injection h with h; subst h; subst e; simp
    · exact List.mem_cons_of_mem _ (ih h)
theorem look_none {L : List Bd} {n : Int} : look L n = none ↔ ¬ n ∈ L.map Prod.fst := by
  induction L with
  | nil => simp [look]
  | cons b r ih =>
    simp only [look, List.map_cons, List.mem_cons, not_or]
    split
    · rename_i e; simp [e]
    · rename_i e; rw [ih]; exact ⟨fun h => ⟨fun h2 => e h2.symm, h⟩, fun h => h.2⟩
/-- A bind's type is right, its number a variable's. -/
def bdRight (b : Bd) : Bool := decide (0 ≤ b.1) && decide (b.1 ≤ 1048576) && right b.2
theorem look_right {L : List Bd} (h : ∀ b ∈ L, right b.2 = true) {n : Int} {u : T} (hl : look L n = some u) : right u = true := h _ (look_mem hl)
mutual
theorem sub_right {L : List Bd} (h : ∀ b ∈ L, right b.2 = true) : ∀ t : T, right t = true → right (sub L t) = true
  | .mk k n l, ht => by
    by_cases hk : k = 6
    · subst hk
      simp only [sub, if_true]
      cases hl : look L n with
      | none => exact ht
      | some u => exact look_right h hl
    · rw [sub_node hk]
      have h1 := ht
      simp only [right, Bool.and_eq_true] at h1 ⊢
      rw [subs_len]
      exact ⟨h1.1, subs_right h l h1.2⟩
theorem subs_right {L : List Bd} (h : ∀ b ∈ L, right b.2 = true) : ∀ l : List T, rights l = true → rights (subs L l) = true
  | [], _ => rfl
  | t :: r, hl => by
    simp only [rights, Bool.and_eq_true] at hl
    simp only [subs, rights, Bool.and_eq_true]
    exact ⟨sub_right h t hl.1, subs_right h r hl.2⟩
end
mutual
theorem sub_nil : ∀ t : T, sub [] t = t
  | .mk k n l => by
    by_cases hk : k = 6
    · simp [sub, look, hk]
    · rw [sub_node hk, subs_nil l]
theorem subs_nil : ∀ l : List T, subs [] l = l
  | [] => rfl
  | t :: r => by simp only [subs, sub_nil t, subs_nil r]
end
mutual
/-- What is closed stays. -/
theorem sub_closed (L : List Bd) : ∀ t : T, without 6 t = true → sub L t = t
  | .mk k n l, h => by
    simp only [without, Bool.and_eq_true, Bool.not_eq_true', decide_eq_false_iff_not] at h
    rw [sub_node h.1, subs_closed L l h.2]
theorem subs_closed (L : List Bd) : ∀ l : List T, withouts 6 l = true → subs L l = l
  | [], _ => rfl
  | t :: r, h => by
    simp only [withouts, Bool.and_eq_true] at h
    simp only [subs, sub_closed L t h.1, subs_closed L r h.2]
end
mutual
/-- One behind the other is both at once, where what is put first is closed. -/
theorem sub_twice {L : List Bd} (M : List Bd) (h : ∀ b ∈ L, without 6 b.2 = true) : ∀ t : T, right t = true → sub M (sub L t) = sub (L ++ M) t
  | .mk k n l, ht => by
    by_cases hk : k = 6
    · subst hk
      simp only [sub, if_true, look_append]
      cases hl : look L n with
      | none => simp only [Option.getD_none, Option.none_or, sub, if_true]
      | some u => simp only [Option.getD_some, Option.some_or]; exact sub_closed M u (h _ (look_mem hl))
    · rw [sub_node hk, sub_node hk, sub_node hk, subs_twice M h l (right_node ht).2.1]
theorem subs_twice {L : List Bd} (M : List Bd) (h : ∀ b ∈ L, without 6 b.2 = true) : ∀ l : List T, rights l = true → subs M (subs L l) = subs (L ++ M) l
  | [], _ => rfl
  | t :: r, hl => by
    simp only [rights, Bool.and_eq_true] at hl
    simp only [subs, sub_twice M h t hl.1, subs_twice M h r hl.2]
end
/-- Composition, whatever is put. -/
def comp (L M : List Bd) : List Bd := L.map fun b => (b.1, sub M b.2)
theorem look_comp (L M : List Bd) (n : Int) : look (comp L M) n = (look L n).map (sub M) := by
  induction L with
  | nil => rfl
  | cons b r ih =>
    simp only [comp, List.map_cons, look]
    split
    · rfl
    · exact ih
mutual
theorem sub_comp (L M : List Bd) : ∀ t : T, right t = true → sub M (sub L t) = sub (comp L M ++ M) t
  | .mk k n l, ht => by
    by_cases hk : k = 6
    · subst hk
      simp only [sub, if_true, look_append, look_comp]
      cases hl : look L n with
      | none => simp only [Option.getD_none, Option.map_none, Option.none_or, sub, if_true]
      | some u => simp only [Option.getD_some, Option.map_some, Option.some_or]
    · rw [sub_node hk, sub_node hk, sub_node hk, subs_comp L M l (right_node ht).2.1]
theorem subs_comp (L M : List Bd) : ∀ l : List T, rights l = true → subs M (subs L l) = subs (comp L M ++ M) l
  | [], _ => rfl
  | t :: r, hl => by
    simp only [rights, Bool.and_eq_true] at hl
    simp only [subs, sub_comp L M t hl.1, subs_comp L M r hl.2]
end
mutual
/-- Does a number stand in a type? -/
def occ (n : Int) : T → Bool | .mk k m l => (decide (k = 6) && decide (m = n)) || occs n l
def occs (n : Int) : List T → Bool | [] => false | t :: r => occ n t || occs n r
end
theorem mem_addVar (k n m : Int) (acc : List Int) : m ∈ addVar k n acc ↔ m ∈ acc ∨ (k = 6 ∧ n = m) := by
  unfold addVar
  split
  · rename_i h
    simp only [List.mem_append, List.mem_singleton]
    exact ⟨fun h2 => h2.imp id fun e => ⟨h.1, e.symm⟩, fun h2 => h2.imp id fun e => e.2.symm⟩
  · rename_i h
    refine ⟨.inl, fun h2 => h2.elim id fun e => ?_⟩
    by_cases hn : n ∈ acc
    · exact e.2 ▸ hn
    · exact absurd ⟨e.1, hn⟩ h
mutual
theorem mem_vars : ∀ (t : T) (acc : List Int) (m : Int), m ∈ vars t acc ↔ m ∈ acc ∨ occ m t = true
  | .mk k n l, acc, m => by
    simp only [vars, occ, Bool.or_eq_true, Bool.and_eq_true, decide_eq_true_eq]
    rw [mem_varss l, mem_addVar, or_assoc]
theorem mem_varss : ∀ (l : List T) (acc : List Int) (m : Int), m ∈ varss l acc ↔ m ∈ acc ∨ occs m l = true
  | [], acc, m => by simp [varss, occs]
  | t :: r, acc, m => by simp only [varss, occs, Bool.or_eq_true]; rw [mem_varss r, mem_vars t, or_assoc]
end
theorem addVar_nodup {k n : Int} {acc : List Int} (h : acc.Nodup) : (addVar k n acc).Nodup := by
  unfold addVar
  split
  · rename_i hc
    rw [List.nodup_append]
    refine ⟨h, by simp, fun a ha b hb => ?_⟩
    rw [List.mem_singleton] at hb
    subst hb
    exact fun e => hc.2 (e ▸ ha)
  · exact h
mutual
theorem vars_nodup : ∀ (t : T) (acc : List Int), acc.Nodup → (vars t acc).Nodup
  | .mk k n l, acc, h => by simp only [vars]; exact varss_nodup l _ (addVar_nodup h)
theorem varss_nodup : ∀ (l : List T) (acc : List Int), acc.Nodup → (varss l acc).Nodup
  | [], _, h => by simpa [varss] using h
  | t :: r, acc, h => by simp only [varss]; exact varss_nodup r _ (vars_nodup t acc h)
end
mutual
/-- Only what stands there counts. -/
theorem sub_congr {L M : List Bd} : ∀ t : T, (∀ n, occ n t = true → look L n = look M n) → sub L t = sub M t
  | .mk k n l, h => by
    by_cases hk : k = 6
    · subst hk
      simp only [sub, if_true]
      rw [h n (by simp [occ])]
    · rw [sub_node hk, sub_node hk, subs_congr l (fun m hm => h m (by simp [occ, hm]))]
theorem subs_congr {L M : List Bd} : ∀ l : List T, (∀ n, occs n l = true → look L n = look M n) → subs L l = subs M l
  | [], _ => rfl
  | t :: r, h => by
    simp only [subs]
    rw [sub_congr t (fun n hn => h n (by simp [occs, hn])), subs_congr r (fun n hn => h n (by simp [occs, hn]))]
end
mutual
/-- Two substitutions that give one type agree on what stands there. -/
theorem sub_eq_look {L M : List Bd} : ∀ t : T, right t = true → sub L t = sub M t → ∀ n, occ n t = true → (look L n).getD (.mk 6 n []) = (look M n).getD (.mk 6 n [])
  | .mk k m l, ht, h, n, hn => by
    by_cases hk : k = 6
    · subst hk
      have hl : l = [] := by
        have := (right_node ht).1
        simp [arity] at this
        exact List.eq_nil_of_length_eq_zero (by omega)
      subst hl
      simp only [occ, occs, Bool.or_false, Bool.and_eq_true, decide_eq_true_eq] at hn
      simp only [sub, if_true] at h
      rw [hn.2] at h
      exact h
    · rw [sub_node hk, sub_node hk] at h
      injection h with _ _ h3
      simp only [occ, Bool.or_eq_true, Bool.and_eq_true, decide_eq_true_eq] at hn
      exact subs_eq_look l (right_node ht).2.1 h3 n (hn.resolve_left fun e => hk e.1)
theorem subs_eq_look {L M : List Bd} : ∀ l : List T, rights l = true → subs L l = subs M l → ∀ n, occs n l = true → (look L n).getD (.mk 6 n []) = (look M n).getD (.mk 6 n [])
  | [], _, _, n, hn => by simp [occs] at hn
  | t :: r, hr, h, n, hn => by
    simp only [rights, Bool.and_eq_true] at hr
    simp only [subs, List.cons.injEq] at h
    simp only [occs, Bool.or_eq_true] at hn
    rcases hn with hn | hn
    · exact sub_eq_look t hr.1 h.1 n hn
    · exact subs_eq_look r hr.2 h.2 n hn
end
end Go.Proofs.Ytncdbbjkafgphaa.Tp
namespace Go.Proofs.Ytncdbbjkafgphaa.Tp
mutual
/-- What a type is matched with, with what is known already. -/
def mat : T → T → List Bd → Option (List Bd)
  | .mk k n l, .mk k' n' l', L =>
    if k = 6 then (match look L n with
      | some v => if same v (.mk k' n' l') = true then some L else none
      | none => if without 5 (.mk k' n' l') = true then some (L ++ [(n, .mk k' n' l')]) else none)
    else if k = k' then mats l l' L else none
def mats : List T → List T → List Bd → Option (List Bd)
  | t :: r, u :: s, L => (match mat t u L with
    | some M => mats r s M
    | none => none)
  | _, _, L => some L
end
theorem mat_var {n : Int} {l : List T} {u : T} {L : List Bd} : mat (.mk 6 n l) u L = (match look L n with
      | some v => if same v u = true then some L else none
      | none => if without 5 u = true then some (L ++ [(n, u)]) else none) := by cases u; simp [mat]
theorem mat_node {k n k' n' : Int} {l l' : List T} {L : List Bd} (h : ¬ k = 6) : mat (.mk k n l) (.mk k' n' l') L = if k = k' then mats l l' L else none := by simp [mat, h]
theorem right_leaf {n : Int} {l : List T} (h : right (.mk 6 n l) = true) : l = [] := by
  have := (right_node h).1
  simp [arity] at this
  exact List.eq_nil_of_length_eq_zero (by omega)
/-- More binds behind change nothing of a type whose numbers are all told. -/
theorem sub_more {L : List Bd} (M : List Bd) {t : T} (h : ∀ n, occ n t = true → n ∈ L.map Prod.fst) : sub (L ++ M) t = sub L t := by
  refine sub_congr t fun n hn => ?_
  rw [look_append]
  cases hl : look L n with
  | none => exact absurd (h n hn) (look_none.1 hl)
  | some v => rfl
mutual
theorem mat_sound : ∀ (t u : T) (L L' : List Bd), right t = true → right u = true → mat t u L = some L' →
    (∃ M, L' = L ++ M ∧ ∀ b ∈ M, without 5 b.2 = true ∧ right b.2 = true) ∧ L'.map Prod.fst = vars t (L.map Prod.fst) ∧ sub L' t = u
  | .mk k n l, .mk k' n' l', L, L', ht, hu, h => by
    by_cases hk : k = 6
    · subst hk
      obtain rfl := right_leaf ht
      rw [mat_var] at h
      cases hl : look L n with
      | some v =>
        rw [hl] at h
        by_cases hs : same v (.mk k' n' l') = true
        · simp only [hs, if_true, Option.some.injEq] at h
          subst h
          have hin : n ∈ L.map Prod.fst := by
            have := look_mem hl
            exact List.mem_map.2 ⟨_, this, rfl⟩
          refine ⟨⟨[], by simp, fun b hb => by cases hb⟩, ?_, ?_⟩
          · simp only [vars, varss, addVar, true_and]
            rw [if_neg (fun h => h hin)]
          · rw [sub_var hl]; exact (same_iff _ _).1 hs
        · simp [hs] at h
      | none =>
        rw [hl] at h
        by_cases hs : without 5 (.mk k' n' l') = true
        · simp only [hs, if_true, Option.some.injEq] at h
          subst h
          have hin : ¬ n ∈ L.map Prod.fst := look_none.1 hl
          refine ⟨⟨_, rfl, fun b hb => ?_⟩, ?_, ?_⟩
          · rw [List.mem_singleton] at hb; subst hb; exact ⟨hs, hu⟩
          · simp only [vars, varss, addVar, true_and, List.map_append, List.map_cons, List.map_nil]
            rw [if_pos hin]
          · exact sub_var (by rw [look_append, hl]; simp [look])
        · simp [hs] at h
    · rw [mat_node hk] at h
      by_cases hkk : k = k'
      · subst hkk
        rw [if_pos rfl] at h
        obtain ⟨h1, h2, h3⟩ := mats_sound l l' L L' (right_node ht).2.1 (right_node hu).2.1 (kids_len ht hu) h
        refine ⟨h1, ?_, ?_⟩
        · rw [h2]; simp only [vars, addVar, hk, false_and, if_false]
        · rw [sub_node hk, h3, (right_node ht).2.2.2.2 hk, (right_node hu).2.2.2.2 hk]
      · rw [if_neg hkk] at h; cases h
theorem mats_sound : ∀ (t u : List T) (L L' : List Bd), rights t = true → rights u = true → t.length = u.length → mats t u L = some L' →
    (∃ M, L' = L ++ M ∧ ∀ b ∈ M, without 5 b.2 = true ∧ right b.2 = true) ∧ L'.map Prod.fst = varss t (L.map Prod.fst) ∧ subs L' t = u
  | [], [], L, L', _, _, _, h => by
    simp only [mats, Option.some.injEq] at h
    subst h
    exact ⟨⟨[], by simp, fun b hb => by cases hb⟩, rfl, rfl⟩
  | [], _ :: _, _, _, _, _, hl, _ => by simp at hl
  | _ :: _, [], _, _, _, _, hl, _ => by simp at hl
  | t :: r, u :: s, L, L', ht, hu, hl, h => by
    simp only [rights, Bool.and_eq_true] at ht hu
    simp only [mats] at h
    cases h1 : mat t u L with
    | none => rw [h1] at h; cases h
    | some M =>
      rw [h1] at h
      obtain ⟨⟨M1, e1, g1⟩, k1, s1⟩ := mat_sound t u L M ht.1 hu.1 h1
      obtain ⟨⟨M2, e2, g2⟩, k2, s2⟩ := mats_sound r s M L' ht.2 hu.2 (by simpa using hl) h
      refine ⟨⟨M1 ++ M2, by rw [e2, e1, List.append_assoc], fun b hb => (List.mem_append.1 hb).elim (g1 b) (g2 b)⟩, ?_, ?_⟩
      · rw [k2, k1]; rfl
      · simp only [subs]
        rw [s2, e2, sub_more M2 (fun n hn => by rw [k1]; exact (mem_vars t _ n).2 (.inr hn)), s1]
end
mutual
theorem mat_complete : ∀ (t u : T) (L B : List Bd), right t = true → right u = true → sub B t = u → (∀ n, occ n t = true → ∃ v, look B n = some v ∧ without 5 v = true) → (∀ n v, look L n = some v → look B n = some v) →
    ∃ L', mat t u L = some L' ∧ ∀ n v, look L' n = some v → look B n = some v
  | .mk k n l, .mk k' n' l', L, B, ht, hu, hs, ho, hc => by
    by_cases hk : k = 6
    · subst hk
      obtain ⟨v, hv, hst⟩ := ho n (by simp [occ])
      rw [sub_var hv] at hs
      subst hs
      rw [mat_var]
      cases hl : look L n with
      | some x =>
        have e := hc n x hl
        rw [hv] at e
        injection e with e
        subst e
        refine ⟨L, ?_, hc⟩
        simp only [same_refl, if_true]
      | none =>
        refine ⟨L ++ [(n, .mk k' n' l')], by simp only [hst, if_true], fun m x hx => ?_⟩
        rw [look_append] at hx
        cases hm : look L m with
        | some y => rw [hm] at hx; exact hc m x (by rw [hm]; simpa using hx)
        | none =>
          rw [hm] at hx
          simp only [Option.none_or, look] at hx
          split at hx
          · rename_i e; subst e; rw [hv]; exact hx
          · cases hx
    · rw [sub_node hk] at hs
      injection hs with h1 h2 h3
      subst h1
      rw [mat_node hk, if_pos rfl]
      exact mats_complete l l' L B (right_node ht).2.1 (right_node hu).2.1 h3 (fun m hm => ho m (by simp [occ, hm])) hc
theorem mats_complete : ∀ (t u : List T) (L B : List Bd), rights t = true → rights u = true → subs B t = u → (∀ n, occs n t = true → ∃ v, look B n = some v ∧ without 5 v = true) → (∀ n v, look L n = some v → look B n = some v) →
    ∃ L', mats t u L = some L' ∧ ∀ n v, look L' n = some v → look B n = some v
  | [], _, L, B, _, _, _, _, hc => ⟨L, by simp [mats], hc⟩
  | _ :: _, [], _, _, _, _, hs, _, _ => by simp [subs] at hs
  | t :: r, u :: s, L, B, ht, hu, hs, ho, hc => by
    simp only [rights, Bool.and_eq_true] at ht hu
    simp only [subs, List.cons.injEq] at hs
    obtain ⟨M, h1, h2⟩ := mat_complete t u L B ht.1 hu.1 hs.1 (fun n hn => ho n (by simp [occs, hn])) hc
    obtain ⟨L', h3, h4⟩ := mats_complete r s M B ht.2 hu.2 hs.2 (fun n hn => ho n (by simp [occs, hn])) h2
    exact ⟨L', by simp only [mats, h1]; exact h3, h4⟩
end
/-- Binds of unlike numbers are told by what they say. -/
theorem binds_ext {L B : List Bd} (hk : L.map Prod.fst = B.map Prod.fst) (hn : (L.map Prod.fst).Nodup) (h : ∀ n v, look L n = some v → look B n = some v) : L = B := by
  induction L generalizing B with
  | nil => cases B with
    | nil => rfl
    | cons b r => simp at hk
  | cons a r ih =>
    cases B with
    | nil => simp at hk
    | cons b s =>
      simp only [List.map_cons, List.cons.injEq] at hk
      simp only [List.map_cons, List.nodup_cons] at hn
      have h1 := h a.1 a.2 (by simp [look])
      simp only [look, hk.1, if_true, Option.some.injEq] at h1
      have e : a = b := Prod.ext hk.1 h1.symm
      rw [e, ih hk.2 hn.2 (fun n v hv => ?_)]
      have hne : ¬ a.1 = n := fun e2 => hn.1 (by
        have := look_mem hv
        exact List.mem_map.2 ⟨_, this, e2.symm⟩)
      have h2 := h n v (by simp only [look]; rw [if_neg hne]; exact hv)
      simp only [look] at h2
      rwa [if_neg (by rw [← hk.1]; exact hne)] at h2
/-- What was put, in the order of the variables, is what is matched. -/
theorem mat_put {t : T} {B : List Bd} (ht : right t = true) (hB : ∀ b ∈ B, right b.2 = true ∧ without 5 b.2 = true) (hk : B.map Prod.fst = vars t []) : mat t (sub B t) [] = some B := by
  have hocc : ∀ n, occ n t = true → ∃ v, look B n = some v ∧ without 5 v = true := fun n hn => by
    cases hl : look B n with
    | none => exact absurd (by rw [hk]; exact (mem_vars t [] n).2 (.inr hn)) (look_none.1 hl)
    | some v => exact ⟨v, rfl, (hB _ (look_mem hl)).2⟩
  have hru := sub_right (fun b hb => (hB b hb).1) t ht
  obtain ⟨L', h1, h2⟩ := mat_complete t (sub B t) [] B ht hru rfl hocc (fun n v h => by simp [look] at h)
  obtain ⟨_, h3, _⟩ := mat_sound t _ [] L' ht hru h1
  rw [h1, binds_ext (h3.trans hk.symm) (by rw [h3]; exact vars_nodup t [] List.nodup_nil) h2]
end Go.Proofs.Ytncdbbjkafgphaa.Tp
namespace Go.Proofs.Ytncdbbjkafgphaa.Tp
/-- The variables from a number on, for those of a row. -/
def numb : List Int → Nat → List Bd
  | [], _ => []
  | v :: r, i => (v, .mk 6 (i : Int) []) :: numb r (i + 1)
/-- A type with its variables numbered anew. -/
def canon (t : T) : T := sub (numb (vars t []) 0) t
theorem numb_keys : ∀ (l : List Int) (i : Nat), (numb l i).map Prod.fst = l
  | [], _ => rfl
  | v :: r, i => by simp [numb, numb_keys r (i + 1)]
theorem numb_len (l : List Int) (i : Nat) : (numb l i).length = l.length := by rw [← List.length_map, numb_keys]
/-- Where a number stands first. -/
def idx : List Int → Int → Nat
  | [], _ => 0
  | v :: r, n => if v = n then 0 else idx r n + 1
theorem idx_lt : ∀ (l : List Int) (n : Int), n ∈ l → idx l n < l.length
  | [], n, h => by cases h
  | v :: r, n, h => by
    simp only [idx]
    split
    · simp
    · rename_i e
      have := idx_lt r n ((List.mem_cons.1 h).resolve_left fun e2 => e e2.symm)
      simp only [List.length_cons]; omega
theorem idx_get : ∀ (l : List Int) (n : Int) (h : n ∈ l), l[idx l n]'(idx_lt l n h) = n
  | [], n, h => by cases h
  | v :: r, n, h => by
    by_cases e : v = n
    · subst e; simp [idx]
    · have hr := (List.mem_cons.1 h).resolve_left fun e2 => e e2.symm
      simp only [idx, e, if_false, List.getElem_cons_succ]
      exact idx_get r n hr
theorem look_numb : ∀ (l : List Int) (i : Nat) (n : Int), n ∈ l → look (numb l i) n = some (.mk 6 ((i + idx l n : Nat) : Int) [])
  | [], _, n, h => by cases h
  | v :: r, i, n, h => by
    simp only [numb, look, idx]
    split
    · rfl
    · rename_i e
      rw [look_numb r (i + 1) n ((List.mem_cons.1 h).resolve_left fun e2 => e e2.symm)]
      congr 3
      omega
/-- Numbers put for numbers. -/
theorem addVar_map {f : Int → Int} {S : List Int} (hf : ∀ a ∈ S, ∀ b ∈ S, f a = f b → a = b) {k n : Int} {acc : List Int} (hn : k = 6 → n ∈ S) (ha : ∀ a ∈ acc, a ∈ S) :
    addVar k (if k = 6 then f n else n) (acc.map f) = (addVar k n acc).map f := by
  unfold addVar
  by_cases hk : k = 6
  · subst hk
    simp only [true_and, if_true]
    have e : f n ∈ acc.map f ↔ n ∈ acc := by
      rw [List.mem_map]
      exact ⟨fun ⟨a, h1, h2⟩ => hf a (ha a h1) n (hn rfl) h2 ▸ h1, fun h => ⟨n, h, rfl⟩⟩
    by_cases h : n ∈ acc
    · rw [if_neg (by rw [e]; simpa using h), if_neg (by simpa using h)]
    · rw [if_pos (by rw [e]; exact h), if_pos h, List.map_append]; rfl
  · simp [hk]
mutual
theorem vars_rename {L : List Bd} {f : Int → Int} {S : List Int} (hf : ∀ a ∈ S, ∀ b ∈ S, f a = f b → a = b) (hL : ∀ n ∈ S, look L n = some (.mk 6 (f n) [])) : ∀ (t : T) (acc : List Int), right t = true → (∀ n, occ n t = true → n ∈ S) → (∀ a ∈ acc, a ∈ S) → vars (sub L t) (acc.map f) = (vars t acc).map f
  | .mk k n l, acc, ht, ho, ha => by
    by_cases hk : k = 6
    · subst hk
      obtain rfl := right_leaf ht
      have hn : n ∈ S := ho n (by simp [occ])
      rw [sub_var (hL n hn)]
      have h := addVar_map (k := 6) hf (fun _ => hn) ha
      rw [if_pos rfl] at h
      simp only [vars, varss]
      exact h
    · rw [sub_node hk]
      have e : ∀ (m : Int) (A : List Int), addVar k m A = A := fun m A => by unfold addVar; simp [hk]
      simp only [vars, e]
      exact varss_rename hf hL l acc (right_node ht).2.1 (fun m hm => ho m (by simp [occ, hm])) ha
theorem varss_rename {L : List Bd} {f : Int → Int} {S : List Int} (hf : ∀ a ∈ S, ∀ b ∈ S, f a = f b → a = b) (hL : ∀ n ∈ S, look L n = some (.mk 6 (f n) [])) : ∀ (l : List T) (acc : List Int), rights l = true → (∀ n, occs n l = true → n ∈ S) → (∀ a ∈ acc, a ∈ S) → varss (subs L l) (acc.map f) = (varss l acc).map f
  | [], _, _, _, _ => rfl
  | t :: r, acc, hl, ho, ha => by
    simp only [rights, Bool.and_eq_true] at hl
    simp only [subs, varss]
    rw [vars_rename hf hL t acc hl.1 (fun n hn => ho n (by simp [occs, hn])) ha]
    exact varss_rename hf hL r _ hl.2 (fun n hn => ho n (by simp [occs, hn])) (fun a h => ((mem_vars t acc a).1 h).elim (ha a) (fun h => ho a (by simp [occs, h])))
end
theorem idx_inj {l : List Int} {a b : Int} (ha : a ∈ l) (hb : b ∈ l) (h : idx l a = idx l b) : a = b := by
  have h1 := idx_get l a ha
  have h2 := idx_get l b hb
  rw [← h1, ← h2]; congr 1
theorem occ_vars {t : T} {n : Int} (h : occ n t = true) : n ∈ vars t [] := (mem_vars t [] n).2 (.inr h)
theorem vars_canon {t : T} (ht : right t = true) : vars (canon t) [] = (vars t []).map fun n => ((idx (vars t []) n : Nat) : Int) := by
  have h := vars_rename (L := numb (vars t []) 0) (f := fun n => ((idx (vars t []) n : Nat) : Int)) (S := vars t []) (fun a ha b hb e => idx_inj ha hb (by omega)) (fun n hn => by rw [look_numb _ _ _ hn, Nat.zero_add]) t [] ht (fun n hn => occ_vars hn) (fun _ h => by cases h)
  exact h
theorem idx_at {l : List Int} (hl : l.Nodup) : ∀ (i : Nat) (h : i < l.length), idx l l[i] = i := by
  induction l with
  | nil => intro i h; simp at h
  | cons v r ih =>
    rw [List.nodup_cons] at hl
    intro i h
    cases i with
    | zero => simp [idx]
    | succ j =>
      have hj : j < r.length := by simpa using h
      have hne : ¬ v = r[j] := fun e => hl.1 (e ▸ List.getElem_mem hj)
      simp only [List.getElem_cons_succ, idx, hne, if_false, ih hl.2 j hj]
/-- The variables are those from 0 on. -/
theorem canon_vars {t : T} (ht : right t = true) : (vars (canon t) []).length = (vars t []).length ∧ ∀ (i : Nat) (h : i < (vars (canon t) []).length), (vars (canon t) [])[i] = (i : Int) := by
  have e := vars_canon ht
  refine ⟨by rw [e, List.length_map], fun i h => ?_⟩
  have h2 : i < (vars t []).length := by rw [e, List.length_map] at h; exact h
  have : (vars (canon t) [])[i] = ((vars t []).map fun n => ((idx (vars t []) n : Nat) : Int))[i]'(by rw [List.length_map]; exact h2) := by congr 1
  rw [this, List.getElem_map, idx_at (vars_nodup t [] List.nodup_nil) i h2]
mutual
theorem vlenC : ∀ (t : T) (acc : List Int), (vars t acc).length ≤ acc.length + size t
  | .mk k n l, acc => by
    have h := vlensC l (addVar k n acc)
    have h2 : (addVar k n acc).length ≤ acc.length + 1 := by unfold addVar; split <;> simp
    simp only [vars, size]; omega
theorem vlensC : ∀ (l : List T) (acc : List Int), (varss l acc).length ≤ acc.length + sizes l
  | [], acc => by simp [varss]
  | t :: r, acc => by
    have h := vlensC r (vars t acc)
    have h2 := vlenC t acc
    simp only [varss, sizes]; omega
end
theorem canon_right {t : T} (ht : right t = true) (hs : size t ≤ 1000000) : right (canon t) = true := by
  refine sub_right (fun b hb => ?_) t ht
  obtain ⟨i, hi, rfl⟩ := List.mem_iff_getElem.1 hb
  have key : ∀ (l : List Int) (j i : Nat) (h : i < (numb l j).length), ∃ q : Nat, q < j + l.length ∧ (numb l j)[i].2 = .mk 6 (q : Int) [] := by
    intro l
    induction l with
    | nil => intro j i h; simp [numb] at h
    | cons v r ih =>
      intro j i h
      cases i with
      | zero => exact ⟨j, by simp, rfl⟩
      | succ i =>
        obtain ⟨q, h1, h2⟩ := ih (j + 1) i (by simpa [numb] using h)
        exact ⟨q, by simp only [List.length_cons]; omega, by simpa [numb] using h2⟩
  obtain ⟨q, h1, h2⟩ := key _ 0 i hi
  have hl : (vars t []).length ≤ size t := by have := vlenC t []; simpa using this
  rw [h2]
  simp [right, rights, nodeRight, arity]
  omega
mutual
theorem sub_id {L : List Bd} : ∀ t : T, right t = true → (∀ n, occ n t = true → look L n = some (.mk 6 n [])) → sub L t = t
  | .mk k n l, ht, h => by
    by_cases hk : k = 6
    · subst hk
      obtain rfl := right_leaf ht
      exact sub_var (h n (by simp [occ]))
    · rw [sub_node hk, subs_id l (right_node ht).2.1 (fun m hm => h m (by simp [occ, hm]))]
theorem subs_id {L : List Bd} : ∀ l : List T, rights l = true → (∀ n, occs n l = true → look L n = some (.mk 6 n [])) → subs L l = l
  | [], _, _ => rfl
  | t :: r, hl, h => by
    simp only [rights, Bool.and_eq_true] at hl
    simp only [subs, sub_id t hl.1 (fun n hn => h n (by simp [occs, hn])), subs_id r hl.2 (fun n hn => h n (by simp [occs, hn]))]
end
theorem canon_twice {t : T} (ht : right t = true) (hs : size t ≤ 1000000) : canon (canon t) = canon t := by
  have hr := canon_right ht hs
  obtain ⟨_, hv⟩ := canon_vars ht
  refine sub_id (canon t) hr fun n hn => ?_
  have hm := occ_vars hn
  rw [look_numb _ _ _ hm, Nat.zero_add]
  have h1 := idx_get _ n hm
  rw [hv _ (idx_lt _ n hm)] at h1
  rw [h1]
end Go.Proofs.Ytncdbbjkafgphaa.Tp
namespace Go.Proofs.Ytncdbbjkafgphaa.Tp
/-- A type that becomes a variable is one. -/
theorem sub_is_var {L : List Bd} {v : T} {n : Int} (hr : right v = true) (h : sub L v = .mk 6 n []) : ∃ m, v = .mk 6 m [] ∧ (look L m).getD v = .mk 6 n [] := by
  cases v with
  | mk k m l =>
    by_cases hk : k = 6
    · subst hk
      obtain rfl := right_leaf hr
      exact ⟨m, rfl, by simpa [sub] using h⟩
    · rw [sub_node hk] at h
      injection h with h1 _ _
      exact absurd h1 hk
/-- Renamed, without two becoming one: the same anew. -/
theorem canon_rename {t : T} {L : List Bd} {f : Int → Int} (ht : right t = true) (hf : ∀ a ∈ vars t [], ∀ b ∈ vars t [], f a = f b → a = b) (hL : ∀ n ∈ vars t [], look L n = some (.mk 6 (f n) [])) : canon (sub L t) = canon t := by
  have hv : vars (sub L t) [] = (vars t []).map f := vars_rename (S := vars t []) hf hL t [] ht (fun n hn => occ_vars hn) (fun _ h => by cases h)
  unfold canon
  rw [sub_comp L _ t ht]
  refine sub_congr t fun n hn => ?_
  have hm := occ_vars hn
  rw [look_append, look_comp, hL n hm, look_numb _ _ _ hm]
  have hfm : f n ∈ vars (sub L t) [] := by rw [hv]; exact List.mem_map.2 ⟨n, hm, rfl⟩
  simp only [Option.map_some, Option.some_or]
  rw [sub_var (look_numb _ _ _ hfm)]
  have e : idx (vars (sub L t) []) (f n) = idx (vars t []) n := by
    rw [hv]
    have key : ∀ (l : List Int), (∀ a ∈ l, a ∈ vars t []) → idx (l.map f) (f n) = idx l n := by
      intro l
      induction l with
      | nil => intro _; rfl
      | cons v r ih =>
        intro hl
        simp only [List.map_cons, idx]
        by_cases e : v = n
        · subst e; simp
        · have : ¬ f v = f n := fun e2 => e (hf v (hl v (by simp)) n hm e2)
          rw [if_neg e, if_neg this, ih fun a ha => hl a (by simp [ha])]
    exact key _ fun a ha => ha
  rw [e]
/-- Each is matched with the other one: renamed. -/
theorem canon_of_both {t u : T} {L M : List Bd} (ht : right t = true) (hu : right u = true) (h1 : mat t u [] = some L) (h2 : mat u t [] = some M) : canon t = canon u := by
  obtain ⟨⟨L0, e1, g1⟩, k1, s1⟩ := mat_sound t u [] L ht hu h1
  obtain ⟨⟨M0, e2, g2⟩, k2, s2⟩ := mat_sound u t [] M hu ht h2
  rw [List.nil_append] at e1 e2
  subst e1 e2
  have hback : sub (comp L M ++ M) t = sub [] t := by rw [← sub_comp L M t ht, s1, s2, sub_nil]
  have hren : ∀ n ∈ vars t [], ∃ m, look L n = some (.mk 6 m []) ∧ (look M m).getD (.mk 6 m []) = .mk 6 n [] := fun n hn => by
    have hocc : occ n t = true := ((mem_vars t [] n).1 hn).resolve_left (by simp)
    have h := sub_eq_look t ht hback n hocc
    rw [look_append, look_comp] at h
    cases hl : look L n with
    | none => exact absurd (by rw [k1]; exact hn) (look_none.1 hl)
    | some v =>
      rw [hl] at h
      simp only [Option.map_some, Option.some_or, Option.getD_some, look, Option.getD_none] at h
      obtain ⟨m, rfl, h3⟩ := sub_is_var ((g1 _ (look_mem hl)).2) h
      exact ⟨m, rfl, h3⟩
  have hf : ∀ n ∈ vars t [], look L n = some (.mk 6 ((look L n).elim 0 T.num) []) := fun n hn => by
    obtain ⟨m, h, _⟩ := hren n hn
    rw [h]; rfl
  have hi : ∀ a ∈ vars t [], ∀ b ∈ vars t [], (look L a).elim 0 T.num = (look L b).elim 0 T.num → a = b := fun a ha b hb e => by
    obtain ⟨m, q1, q2⟩ := hren a ha
    obtain ⟨m', r1, r2⟩ := hren b hb
    rw [q1, r1] at e
    simp only [Option.elim_some, T.num] at e
    subst e
    rw [q2] at r2
    injection r2 with _ r3 _
  rw [← s1]
  exact (canon_rename ht (f := fun n => (look L n).elim 0 T.num) hi hf).symm
/-- The variables from 0 on, back to those of a row. -/
def back : List Int → Nat → List Bd
  | [], _ => []
  | v :: r, i => ((i : Int), .mk 6 v []) :: back r (i + 1)
theorem look_back : ∀ (l : List Int) (i j : Nat) (h : j < l.length), look (back l i) ((i + j : Nat) : Int) = some (.mk 6 l[j] [])
  | [], _, j, h => by simp at h
  | v :: r, i, 0, _ => by simp [back, look]
  | v :: r, i, j + 1, h => by
    simp only [back, look]
    rw [if_neg (by omega), show i + (j + 1) = i + 1 + j from by omega]
    exact look_back r (i + 1) j (by simpa using h)
/-- The same anew: matched. -/
theorem mat_of_canon {t u : T} (ht : right t = true) (hu : right u = true) (h : canon t = canon u) : ∃ L, mat t u [] = some L := by
  have hlen : (vars t []).length = (vars u []).length := by rw [← (canon_vars ht).1, ← (canon_vars hu).1, h]
  have hlook : ∀ n, occ n t = true → look (comp (numb (vars t []) 0) (back (vars u []) 0) ++ back (vars u []) 0) n = some (.mk 6 ((vars u []).getD (idx (vars t []) n) 0) []) := fun n hn => by
    have hm := occ_vars hn
    have hi := idx_lt _ n hm
    rw [look_append, look_comp, look_numb _ _ _ hm]
    simp only [Option.map_some, Option.some_or]
    have hb := look_back (vars u []) 0 (idx (vars t []) n) (by omega)
    rw [sub_var hb, List.getD_eq_getElem?_getD, List.getElem?_eq_getElem (by omega)]
    rfl
  have hsub : sub (comp (numb (vars t []) 0) (back (vars u []) 0) ++ back (vars u []) 0) t = u := by
    rw [← sub_comp _ _ t ht]
    show sub (back (vars u []) 0) (canon t) = u
    rw [h]
    unfold canon
    rw [sub_comp _ _ u hu]
    refine sub_id u hu fun n hn => ?_
    have hm := occ_vars hn
    have hi := idx_lt _ n hm
    rw [look_append, look_comp, look_numb _ _ _ hm]
    simp only [Option.map_some, Option.some_or]
    have hb := look_back (vars u []) 0 (idx (vars u []) n) hi
    rw [sub_var hb, idx_get _ n hm]
  obtain ⟨L, hL, _⟩ := mat_complete t u [] _ ht hu hsub (fun n hn => ⟨_, hlook n hn, by simp [without, withouts]⟩) (fun n v h => by simp [look] at h)
  exact ⟨L, hL⟩
theorem canon_match {t u : T} (ht : right t = true) (hu : right u = true) : same (canon t) (canon u) = ((mat t u []).isSome && (mat u t []).isSome) := by
  rw [Bool.eq_iff_iff, same_iff, Bool.and_eq_true]
  constructor
  · intro h
    obtain ⟨L, hL⟩ := mat_of_canon ht hu h
    obtain ⟨M, hM⟩ := mat_of_canon hu ht h.symm
    rw [hL, hM]; exact ⟨rfl, rfl⟩
  · rintro ⟨h1, h2⟩
    obtain ⟨L, hL⟩ := Option.isSome_iff_exists.1 h1
    obtain ⟨M, hM⟩ := Option.isSome_iff_exists.1 h2
    exact canon_of_both ht hu hL hM
end Go.Proofs.Ytncdbbjkafgphaa.Tp
namespace Go.Proofs.Ytncdbbjkafgphaa.Tp
/-- Static closed right types for the numbers of a row. -/
def StC (L : List Bd) (l : List Int) : Prop := ∀ n ∈ l, ∃ v, look L n = some v ∧ right v = true ∧ without 5 v = true ∧ without 6 v = true
def Und (a b : T) : Prop := ∃ R S, StC R (vars a []) ∧ StC S (vars b []) ∧ below (sub R a) (sub S b) = true
/-- An int for each. -/
def ints (l : List Int) : List Bd := l.map fun n => (n, .mk 1 0 [])
theorem look_ints (l : List Int) (n : Int) (h : n ∈ l) : look (ints l) n = some (.mk 1 0 []) := by
  induction l with
  | nil => cases h
  | cons v r ih =>
    simp only [ints, List.map_cons, look]
    split
    · rfl
    · rename_i e
      exact ih ((List.mem_cons.1 h).resolve_left fun e2 => e e2.symm)
theorem int_facts : right (.mk 1 0 []) = true ∧ without 5 (.mk 1 0 []) = true ∧ without 6 (.mk 1 0 []) = true := by
  simp [right, rights, nodeRight, arity, without, withouts]
theorem ints_stc (l : List Int) : StC (ints l) l := fun n h => ⟨_, look_ints l n h, int_facts⟩
mutual
/-- Static closed types put for all variables: closed; static if it was. -/
theorem stc_closed {L : List Bd} : ∀ t : T, right t = true → (∀ n, occ n t = true → ∃ v, look L n = some v ∧ right v = true ∧ without 5 v = true ∧ without 6 v = true) → without 6 (sub L t) = true ∧ without 5 (sub L t) = without 5 t ∧ right (sub L t) = true
  | .mk k n l, ht, h => by
    by_cases hk : k = 6
    · subst hk
      obtain rfl := right_leaf ht
      obtain ⟨v, h1, h2, h3, h4⟩ := h n (by simp [occ])
      rw [sub_var h1]
      exact ⟨h4, by rw [h3]; simp [without, withouts], h2⟩
    · rw [sub_node hk]
      obtain ⟨h1, h2, h3⟩ := stcs_closed l (right_node ht).2.1 (fun m hm => h m (by simp [occ, hm]))
      have hr := ht
      simp only [right, Bool.and_eq_true] at hr ⊢
      refine ⟨by simp only [without, h1, Bool.and_true, Bool.not_eq_true', decide_eq_false_iff_not]; exact hk, by simp only [without, h2], by rw [subs_len]; exact hr.1, h3⟩
theorem stcs_closed {L : List Bd} : ∀ l : List T, rights l = true → (∀ n, occs n l = true → ∃ v, look L n = some v ∧ right v = true ∧ without 5 v = true ∧ without 6 v = true) → withouts 6 (subs L l) = true ∧ withouts 5 (subs L l) = withouts 5 l ∧ rights (subs L l) = true
  | [], _, _ => ⟨rfl, rfl, rfl⟩
  | t :: r, hl, h => by
    simp only [rights, Bool.and_eq_true] at hl
    obtain ⟨h1, h2, h3⟩ := stc_closed t hl.1 (fun n hn => h n (by simp [occs, hn]))
    obtain ⟨g1, g2, g3⟩ := stcs_closed r hl.2 (fun n hn => h n (by simp [occs, hn]))
    simp only [subs, withouts, rights, Bool.and_eq_true]
    exact ⟨⟨h1, g1⟩, by rw [h2, g2], h3, g3⟩
end
theorem StC.occ {L : List Bd} {t : T} (h : StC L (vars t [])) : ∀ n, occ n t = true → ∃ v, look L n = some v ∧ right v = true ∧ without 5 v = true ∧ without 6 v = true := fun n hn => h n (occ_vars hn)
theorem StC.of_occ {L : List Bd} {t : T} (h : ∀ n, Tp.occ n t = true → ∃ v, look L n = some v ∧ right v = true ∧ without 5 v = true ∧ without 6 v = true) : StC L (vars t []) := fun n hn => h n (((mem_vars t [] n).1 hn).resolve_left (by simp))
mutual
theorem occ_closed (n : Int) : ∀ t : T, without 6 t = true → occ n t = false
  | .mk k m l, h => by
    simp only [without, Bool.and_eq_true, Bool.not_eq_true', decide_eq_false_iff_not] at h
    simp [occ, h.1, occs_closed n l h.2]
theorem occs_closed (n : Int) : ∀ l : List T, withouts 6 l = true → occs n l = false
  | [], _ => rfl
  | t :: r, h => by
    simp only [withouts, Bool.and_eq_true] at h
    simp [occs, occ_closed n t h.1, occs_closed n r h.2]
end
/-- Of closed types: below. -/
theorem und_closed {a b : T} (ha : without 6 a = true) (hb : without 6 b = true) : Und a b ↔ below a b = true := by
  constructor
  · rintro ⟨R, S, _, _, h⟩
    rwa [sub_closed R a ha, sub_closed S b hb] at h
  · intro h
    exact ⟨[], [], StC.of_occ fun n hn => absurd hn (by simp [occ_closed n a ha]), StC.of_occ fun n hn => absurd hn (by simp [occ_closed n b hb]), by rwa [sub_nil, sub_nil]⟩
theorem und_self {a : T} : Und a a := ⟨ints (vars a []), ints (vars a []), ints_stc _, ints_stc _, below_refl _⟩
theorem und_dyn {a : T} : Und a (.mk 5 0 []) := ⟨ints (vars a []), [], ints_stc _, StC.of_occ fun n hn => absurd hn (by simp [occ, occs]), by rw [sub_nil]; exact below_dyn _⟩
/-- Instances of both by static closed types that are below one another. -/
theorem und_of {a b : T} {L M : List Bd} (hL : StC L (vars a [])) (hM : StC M (vars b [])) (h : below (sub L a) (sub M b) = true) : Und a b := ⟨L, M, hL, hM, h⟩
mutual
/-- What stands in what is put stands in what comes out. -/
theorem occ_sub {L : List Bd} {n m : Int} {v : T} : ∀ {t : T}, Tp.occ n t = true → right t = true → look L n = some v → Tp.occ m v = true → Tp.occ m (sub L t) = true
  | .mk k q l, hn, ht, hl, hm => by
    by_cases hk : k = 6
    · subst hk
      obtain rfl := right_leaf ht
      simp only [occ, occs, Bool.or_false, Bool.and_eq_true, decide_eq_true_eq] at hn
      rw [hn.2, sub_var hl]; exact hm
    · simp only [occ, hk, decide_false, Bool.false_and, Bool.false_or] at hn
      rw [sub_node hk]
      simp only [occ, Bool.or_eq_true]
      exact .inr (occs_sub hn (right_node ht).2.1 hl hm)
theorem occs_sub {L : List Bd} {n m : Int} {v : T} : ∀ {l : List T}, occs n l = true → rights l = true → look L n = some v → Tp.occ m v = true → occs m (subs L l) = true
  | [], hn, _, _, _ => by simp [occs] at hn
  | t :: r, hn, ht, hl, hm => by
    simp only [rights, Bool.and_eq_true] at ht
    simp only [occs, Bool.or_eq_true] at hn
    simp only [subs, occs, Bool.or_eq_true]
    exact hn.imp (fun h => occ_sub h ht.1 hl hm) (fun h => occs_sub h ht.2 hl hm)
end
/-- What it is matched with. -/
theorem und_match {a b : T} {L : List Bd} (ha : right a = true) (hb : right b = true) (h : mat a b [] = some L) : Und a b := by
  obtain ⟨⟨L0, e, g⟩, k, s⟩ := mat_sound a b [] L ha hb h
  rw [List.nil_append] at e
  subst e
  refine ⟨comp L (ints (vars b [])) ++ ints (vars b []), ints (vars b []), fun n hn => ?_, ints_stc _, by rw [← sub_comp _ _ a ha, s]; exact below_refl _⟩
  have hin : n ∈ L.map Prod.fst := by rw [k]; exact hn
  cases hl : look L n with
  | none => exact absurd hin (look_none.1 hl)
  | some v =>
    rw [look_append, look_comp, hl]
    refine ⟨sub (ints (vars b [])) v, rfl, ?_⟩
    have hv := g _ (look_mem hl)
    have hocc : ∀ m, Tp.occ m v = true → ∃ x, look (ints (vars b [])) m = some x ∧ right x = true ∧ without 5 x = true ∧ without 6 x = true := fun m hm => by
      have hmb : Tp.occ m b = true := by rw [← s]; exact occ_sub (((mem_vars a [] n).1 hn).resolve_left (by simp)) ha hl hm
      exact ⟨_, look_ints _ m (occ_vars hmb), int_facts⟩
    obtain ⟨c1, c2, c3⟩ := stc_closed v hv.2 hocc
    exact ⟨c3, by rw [c2]; exact hv.1, c1⟩
/-- A static type is what a variable may be. -/
theorem und_var {a : T} (n : Int) (ha : right a = true) (hs : without 5 a = true) : Und (.mk 6 n []) a := by
  have hocc := (ints_stc (vars a [])).occ
  obtain ⟨c1, c2, c3⟩ := stc_closed a ha hocc
  refine ⟨[(n, sub (ints (vars a [])) a)], ints (vars a []), StC.of_occ fun m hm => ?_, ints_stc _, ?_⟩
  · simp only [occ, occs, Bool.or_false, Bool.and_eq_true, decide_eq_true_eq] at hm
    exact ⟨_, by simp [look, hm.2], c3, by rw [c2]; exact hs, c1⟩
  · rw [sub_var (u := sub (ints (vars a [])) a) (by simp [look])]; exact below_refl _
/-- What a closed type is below. -/
theorem und_trans {a b c : T} (ha : right a = true) (hb : right b = true) (hc : right c = true) (wb : without 6 b = true) (wc : without 6 c = true) (h : Und a b) (h2 : below b c = true) : Und a c := by
  obtain ⟨R, S, h1, _, h3⟩ := h
  rw [sub_closed S b wb] at h3
  obtain ⟨_, _, hr⟩ := stc_closed a ha h1.occ
  refine ⟨R, [], h1, StC.of_occ fun n hn => absurd hn (by simp [occ_closed n c wc]), ?_⟩
  rw [sub_nil]
  exact below_trans _ b c hr hb hc h3 h2
end Go.Proofs.Ytncdbbjkafgphaa.Tp
namespace Go.Proofs.Ytncdbbjkafgphaa.Tp
mutual
/-- Right, but that a variable may have any number. -/
def shp : T → Bool | .mk k n l => decide (arity k = l.length) && (decide (k = 6) || decide (n = 0)) && shps l
def shps : List T → Bool | [] => true | t :: r => shp t && shps r
end
theorem shp_node {k n : Int} {l : List T} (h : shp (.mk k n l) = true) : arity k = l.length ∧ (k ≠ 6 → n = 0) ∧ shps l = true := by
  simp only [shp, Bool.and_eq_true, Bool.or_eq_true, decide_eq_true_eq] at h
  exact ⟨h.1.1, fun x => h.1.2.resolve_left x, h.2⟩
theorem shp_var {n : Int} {l : List T} (h : shp (.mk 6 n l) = true) : l = [] := by
  have := (shp_node h).1
  simp [arity] at this
  exact List.eq_nil_of_length_eq_zero (by omega)
theorem shp_dyn {n : Int} {l : List T} (h : shp (.mk 5 n l) = true) : n = 0 ∧ l = [] := by
  obtain ⟨h1, h2, _⟩ := shp_node h
  refine ⟨h2 (by omega), ?_⟩
  simp [arity] at h1
  exact List.eq_nil_of_length_eq_zero (by omega)
theorem shp_len {k n n' : Int} {l l' : List T} (h : shp (.mk k n l) = true) (h' : shp (.mk k n' l') = true) : l.length = l'.length := by
  have h1 := (shp_node h).1
  have h2 := (shp_node h').1
  omega
mutual
theorem shp_right : ∀ t : T, right t = true → shp t = true
  | .mk k n l, h => by
    obtain ⟨h1, h2, _, _, h3⟩ := right_node h
    simp only [shp, Bool.and_eq_true, Bool.or_eq_true, decide_eq_true_eq]
    refine ⟨⟨h1, ?_⟩, shps_right l h2⟩
    by_cases hk : k = 6
    · exact .inl hk
    · exact .inr (h3 hk)
theorem shps_right : ∀ l : List T, rights l = true → shps l = true
  | [], _ => rfl
  | t :: r, h => by
    simp only [shps, Bool.and_eq_true]
    exact ⟨shp_right t (rights_cons h).1, shps_right r (rights_cons h).2⟩
end
mutual
/-- Types put for all variables. -/
def app (s : Int → T) : T → T | .mk k n l => if k = 6 then s n else .mk k n (apps s l)
def apps (s : Int → T) : List T → List T | [] => [] | t :: r => app s t :: apps s r
end
theorem apps_len (s : Int → T) : ∀ l : List T, (apps s l).length = l.length
  | [] => rfl
  | t :: r => by simp [apps, apps_len s r]
theorem app_var (s : Int → T) (n : Int) (l : List T) : app s (.mk 6 n l) = s n := by simp [app]
theorem app_node (s : Int → T) {k : Int} (n : Int) (l : List T) (h : k ≠ 6) : app s (.mk k n l) = .mk k n (apps s l) := by simp [app, h]
/-- Static closed types, of the right shape. -/
def Clo (s : Int → T) : Prop := ∀ n, shp (s n) = true ∧ without 5 (s n) = true ∧ without 6 (s n) = true
mutual
theorem app_clo {s : Int → T} (hs : Clo s) : ∀ t : T, shp t = true → shp (app s t) = true ∧ without 6 (app s t) = true ∧ without 5 (app s t) = without 5 t
  | .mk k n l, h => by
    by_cases hk : k = 6
    · subst hk
      obtain rfl := shp_var h
      rw [app_var]
      exact ⟨(hs n).1, (hs n).2.2, by rw [(hs n).2.1]; simp [without, withouts]⟩
    · rw [app_node s n l hk]
      obtain ⟨h1, h2, h3⟩ := apps_clo hs l (shp_node h).2.2
      simp only [shp, without, Bool.and_eq_true, Bool.or_eq_true, decide_eq_true_eq, h1, h2, h3, apps_len]
      refine ⟨⟨⟨(shp_node h).1, .inr ((shp_node h).2.1 hk)⟩, trivial⟩, ⟨by simpa using hk, trivial⟩, trivial⟩
theorem apps_clo {s : Int → T} (hs : Clo s) : ∀ l : List T, shps l = true → shps (apps s l) = true ∧ withouts 6 (apps s l) = true ∧ withouts 5 (apps s l) = withouts 5 l
  | [], _ => ⟨rfl, rfl, rfl⟩
  | t :: r, h => by
    simp only [shps, Bool.and_eq_true] at h
    obtain ⟨h1, h2, h3⟩ := app_clo hs t h.1
    obtain ⟨g1, g2, g3⟩ := apps_clo hs r h.2
    simp [apps, shps, withouts, h1, h2, h3, g1, g2, g3]
end
mutual
/-- What is below a static type is that type. -/
theorem below_stat : ∀ x y : T, shp x = true → shp y = true → without 5 y = true → below x y = true → x = y
  | .mk k n l, .mk k' n' l', hx, hy, hs, h => by
    simp only [without, Bool.and_eq_true, Bool.not_eq_true', decide_eq_false_iff_not] at hs
    rcases below_iff.1 h with h | ⟨rfl, rfl, g⟩
    · exact absurd h hs.1
    · rw [belows_stat l l' (shp_node hx).2.2 (shp_node hy).2.2 (shp_len hx hy) hs.2 g]
theorem belows_stat : ∀ l m : List T, shps l = true → shps m = true → l.length = m.length → withouts 5 m = true → belows l m = true → l = m
  | [], [], _, _, _, _, _ => rfl
  | [], _ :: _, _, _, hl, _, _ => by simp at hl
  | _ :: _, [], _, _, hl, _, _ => by simp at hl
  | a :: r, b :: s, h1, h2, hl, hs, h => by
    simp only [shps, withouts, belows, Bool.and_eq_true] at h1 h2 hs h
    rw [below_stat a b h1.1 h2.1 hs.1 h.1, belows_stat r s h1.2 h2.2 (by simpa using hl) hs.2 h.2]
end
mutual
/-- What is below has no fewer nodes. -/
theorem below_size : ∀ x y : T, shp x = true → shp y = true → below x y = true → size y ≤ size x
  | .mk k n l, .mk k' n' l', hx, hy, h => by
    rcases below_iff.1 h with h | ⟨rfl, rfl, g⟩
    · subst h
      obtain ⟨rfl, rfl⟩ := shp_dyn hy
      simp [size, sizes]
    · have := belows_size l l' (shp_node hx).2.2 (shp_node hy).2.2 (shp_len hx hy) g
      simp only [size]; omega
theorem belows_size : ∀ l m : List T, shps l = true → shps m = true → l.length = m.length → belows l m = true → sizes m ≤ sizes l
  | [], [], _, _, _, _ => Nat.le_refl _
  | [], _ :: _, _, _, hl, _ => by simp at hl
  | _ :: _, [], _, _, hl, _ => by simp at hl
  | a :: r, b :: s, h1, h2, hl, h => by
    simp only [shps, belows, Bool.and_eq_true] at h1 h2 h
    have h3 := below_size a b h1.1 h2.1 h.1
    have h4 := belows_size r s h1.2 h2.2 (by simpa using hl) h.2
    simp only [sizes]; omega
end
mutual
/-- What is put for a variable that stands in a type is no greater than what comes out. -/
theorem occ_size (s : Int → T) (n : Int) : ∀ t : T, shp t = true → occ n t = true → size (s n) ≤ size (app s t)
  | .mk k m l, hp, h => by
    by_cases hk : k = 6
    · subst hk
      obtain rfl := shp_var hp
      rw [app_var]
      simp only [occ, occs, decide_true, Bool.true_and, Bool.or_false, decide_eq_true_eq] at h
      rw [h]; exact Nat.le_refl _
    · rw [app_node s m l hk]
      simp only [occ, hk, decide_false, Bool.false_and, Bool.false_or] at h
      have := occs_size s n l (shp_node hp).2.2 h
      simp only [size]; omega
theorem occs_size (s : Int → T) (n : Int) : ∀ l : List T, shps l = true → occs n l = true → size (s n) ≤ sizes (apps s l)
  | [], _, h => by simp [occs] at h
  | t :: r, hp, h => by
    simp only [shps, Bool.and_eq_true] at hp
    simp only [occs, Bool.or_eq_true] at h
    simp only [apps, sizes]
    rcases h with h | h
    · have := occ_size s n t hp.1 h; omega
    · have := occs_size s n r hp.2 h; omega
end
/-- A variable within a type that is more than that variable: nothing makes it be below that type. -/
theorem occ_no {s : Int → T} (hs : Clo s) {n k m : Int} {l : List T} (hp : shp (.mk k m l) = true) (hk : k ≠ 6) (ho : occ n (.mk k m l) = true) : below (s n) (app s (.mk k m l)) = false := by
  cases hb : below (s n) (app s (.mk k m l)) with
  | false => rfl
  | true =>
    have h1 := below_size _ _ (hs n).1 (app_clo hs _ hp).1 hb
    rw [app_node s m l hk] at h1
    simp only [occ, hk, decide_false, Bool.false_and, Bool.false_or] at ho
    have h2 := occs_size s n l (shp_node hp).2.2 ho
    simp only [size] at h1
    omega
/-- Nor is that type below it. -/
theorem occ_no' {s : Int → T} (hs : Clo s) {n k m : Int} {l : List T} (hp : shp (.mk k m l) = true) (hk : k ≠ 6) (ho : occ n (.mk k m l) = true) : below (app s (.mk k m l)) (s n) = false := by
  cases hb : below (app s (.mk k m l)) (s n) with
  | false => rfl
  | true =>
    have h0 := below_stat _ _ (app_clo hs _ hp).1 (hs n).1 (hs n).2.1 hb
    have h1 := occ_no hs hp hk ho
    rw [h0, below_refl] at h1
    cases h1
/-- Below a variable: the same, and static. -/
theorem below_var {s : Int → T} (hs : Clo s) {n : Int} {a : T} (ha : shp a = true) : below (app s a) (s n) = true ↔ app s a = s n := by
  refine ⟨below_stat _ _ (app_clo hs a ha).1 (hs n).1 (hs n).2.1, fun h => by rw [h]; exact below_refl _⟩
theorem below_var_stat {s : Int → T} (hs : Clo s) {n : Int} {a : T} (ha : shp a = true) (h : below (app s a) (s n) = true) : without 5 a = true := by
  rw [← (app_clo hs a ha).2.2, (below_var hs ha).1 h]; exact (hs n).2.1
/-- A variable below a static type: the same. -/
theorem var_below_stat {s : Int → T} (hs : Clo s) {n : Int} {b : T} (hb : shp b = true) (h5 : without 5 b = true) : below (s n) (app s b) = true ↔ s n = app s b := by
  refine ⟨below_stat _ _ (hs n).1 (app_clo hs b hb).1 (by rw [(app_clo hs b hb).2.2]; exact h5), fun h => by rw [h]; exact below_refl _⟩
/-- A variable below a type that is neither ? nor a variable: it has its head, and its kids are below. -/
theorem var_below_node {s : Int → T} (hs : Clo s) {n k m : Int} {l : List T} (hb : shp (.mk k m l) = true) (h5 : k ≠ 5) (h6 : k ≠ 6) (h : below (s n) (app s (.mk k m l)) = true) : ∃ q, s n = .mk k m q ∧ q.length = l.length ∧ belows q (apps s l) = true := by
  rw [app_node s m l h6] at h
  obtain ⟨k', m', q, e⟩ : ∃ k' m' q, s n = .mk k' m' q := by cases s n; exact ⟨_, _, _, rfl⟩
  rw [e] at h ⊢
  rcases below_iff.1 h with h | ⟨rfl, rfl, g⟩
  · exact absurd h h5
  · refine ⟨q, rfl, ?_, g⟩
    have := (hs n).1; rw [e] at this
    have h1 := (shp_node this).1; have h2 := (shp_node hb).1; omega
mutual
theorem shp_closed : ∀ t : T, shp t = true → without 6 t = true → right t = true
  | .mk k n l, h, h6 => by
    obtain ⟨h1, h2, h3⟩ := shp_node h
    simp only [without, Bool.and_eq_true, Bool.not_eq_true', decide_eq_false_iff_not] at h6
    have hn := h2 h6.1
    subst hn
    simp [right, nodeRight, h1, shps_closed l h3 h6.2]
theorem shps_closed : ∀ l : List T, shps l = true → withouts 6 l = true → rights l = true
  | [], _, _ => rfl
  | t :: r, h, h6 => by
    simp only [shps, withouts, Bool.and_eq_true] at h h6
    simp [rights, shp_closed t h.1 h6.1, shps_closed r h.2 h6.2]
end
mutual
/-- Other numbers for the variables. -/
def sh (q : Int) : T → T | .mk k n l => if k = 6 then .mk 6 (q + n) l else .mk k n (shs q l)
def shs (q : Int) : List T → List T | [] => [] | t :: r => sh q t :: shs q r
end
mutual
theorem app_sh (s : Int → T) (q : Int) : ∀ t : T, app s (sh q t) = app (fun n => s (q + n)) t
  | .mk k n l => by
    by_cases hk : k = 6
    · subst hk; simp [sh, app]
    · simp [sh, app, hk, apps_sh s q l]
theorem apps_sh (s : Int → T) (q : Int) : ∀ l : List T, apps s (shs q l) = apps (fun n => s (q + n)) l
  | [] => rfl
  | t :: r => by simp [shs, apps, app_sh s q t, apps_sh s q r]
end
mutual
theorem app_sub {s : Int → T} {L : List Bd} : ∀ t : T, (∀ n, occ n t = true → look L n = some (s n)) → app s t = sub L t
  | .mk k n l, h => by
    by_cases hk : k = 6
    · subst hk
      rw [app_var, sub_var (h n (by simp [occ]))]
    · rw [app_node s n l hk, sub_node hk, apps_sub l (fun m hm => h m (by simp [occ, hm]))]
theorem apps_sub {s : Int → T} {L : List Bd} : ∀ l : List T, (∀ n, occs n l = true → look L n = some (s n)) → apps s l = subs L l
  | [], _ => rfl
  | t :: r, h => by
    simp only [apps, subs]
    rw [app_sub t (fun n hn => h n (by simp [occs, hn])), apps_sub r (fun n hn => h n (by simp [occs, hn]))]
end
theorem look_map (f : Int → T) (l : List Int) (n : Int) (h : n ∈ l) : look (l.map fun n => (n, f n)) n = some (f n) := by
  induction l with
  | nil => cases h
  | cons v r ih =>
    by_cases e : v = n
    · subst e; simp [look]
    · simp only [List.map_cons, look, e, if_false]
      exact ih ((List.mem_cons.1 h).resolve_left (fun x => e x.symm))
mutual
theorem occ_range {n : Int} : ∀ t : T, right t = true → occ n t = true → 0 ≤ n ∧ n ≤ 1048576
  | .mk k m l, h, ho => by
    obtain ⟨_, h2, h3, h4, _⟩ := right_node h
    simp only [occ, Bool.or_eq_true, Bool.and_eq_true, decide_eq_true_eq] at ho
    rcases ho with ⟨_, rfl⟩ | ho
    · exact ⟨h3, h4⟩
    · exact occs_range l h2 ho
theorem occs_range {n : Int} : ∀ l : List T, rights l = true → occs n l = true → 0 ≤ n ∧ n ≤ 1048576
  | [], _, h => by simp [occs] at h
  | t :: r, h, ho => by
    simp only [occs, Bool.or_eq_true] at ho
    exact ho.elim (occ_range t (rights_cons h).1) (occs_range r (rights_cons h).2)
end
/-- Static closed types for the variables of one, and of the other: as much as types for all variables, the other's apart. -/
theorem und_apart {a b : T} {q : Int} (ha : right a = true) (hb : right b = true) (hq : 1048576 < q) : Und a b ↔ ∃ s, Clo s ∧ below (app s a) (app s (sh q b)) = true := by
  constructor
  · rintro ⟨R, S, hR, hS, h⟩
    have hint : shp (.mk 1 0 []) = true ∧ without 5 (.mk 1 0 []) = true ∧ without 6 (.mk 1 0 []) = true := by simp [shp, shps, arity, without, withouts]
    obtain ⟨s, es⟩ : ∃ s : Int → T, s = fun m => if m ≤ 1048576 then (if occ m a = true then (look R m).getD (.mk 1 0 []) else .mk 1 0 []) else (if occ (m - q) b = true then (look S (m - q)).getD (.mk 1 0 []) else .mk 1 0 []) := ⟨_, rfl⟩
    have ea : ∀ n, occ n a = true → look R n = some (s n) := fun n hn => by
      obtain ⟨v, hv, _⟩ := hR.occ n hn
      rw [es]
      simp [(occ_range a ha hn).2, hn, hv]
    have eb : ∀ n, occ n b = true → look S n = some (s (q + n)) := fun n hn => by
      obtain ⟨v, hv, _⟩ := hS.occ n hn
      have h1 : ¬ (q + n ≤ 1048576) := by have := (occ_range b hb hn).1; omega
      have h2 : q + n - q = n := by omega
      rw [es]
      simp [h1, h2, hn, hv]
    refine ⟨s, fun n => ?_, ?_⟩
    · rw [es]
      dsimp only
      split
      · split
        · rename_i hn
          obtain ⟨v, hv, h1, h2, h3⟩ := hR.occ n hn
          rw [hv]; exact ⟨shp_right v h1, h2, h3⟩
        · exact hint
      · split
        · rename_i hn
          obtain ⟨v, hv, h1, h2, h3⟩ := hS.occ _ hn
          rw [hv]; exact ⟨shp_right v h1, h2, h3⟩
        · exact hint
    · rw [app_sub a ea, app_sh, app_sub (L := S) b eb]; exact h
  · rintro ⟨s, hs, h⟩
    refine ⟨(vars a []).map fun n => (n, s n), (vars b []).map fun n => (n, s (q + n)), fun n hn => ⟨_, look_map s _ n hn, shp_closed _ (hs n).1 (hs n).2.2, (hs n).2⟩, fun n hn => ⟨_, look_map (fun n => s (q + n)) _ n hn, shp_closed _ (hs (q + n)).1 (hs (q + n)).2.2, (hs (q + n)).2⟩, ?_⟩
    rw [app_sh] at h
    rw [← app_sub a (fun n hn => look_map s _ n (occ_vars hn)), ← app_sub (s := fun n => s (q + n)) b (fun n hn => look_map (fun n => s (q + n)) _ n (occ_vars hn))]
    exact h
/-- Two nodes, neither a variable, the second no ?: heads alike, kids below. -/
theorem node_below {s : Int → T} {k m k' m' : Int} {l l' : List T} (h6 : k ≠ 6) (h6' : k' ≠ 6) (h5 : k' ≠ 5) : below (app s (.mk k m l)) (app s (.mk k' m' l')) = true ↔ k = k' ∧ m = m' ∧ belows (apps s l) (apps s l') = true := by
  rw [app_node s m l h6, app_node s m' l' h6', below_iff]
  exact ⟨fun h => h.resolve_left h5, .inr⟩
end Go.Proofs.Ytncdbbjkafgphaa.Tp

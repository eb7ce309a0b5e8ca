/- Plain facts on types that agree, and their meet. Plain facts on substitution: what is put for the variables of a type. The store, plainly: its nodes, and which node is whose root. -/
import Derived.Test.YteolbbgnkbcfmaaTpP
namespace Go.Proofs.Yteolbbgnkbcfmaa.Tp
mutual
/-- Do two types agree, if they are right? -/
def agree : T → T → Bool
  | .mk k n l, .mk k' n' l' => if k = 5 then without 6 (.mk k' n' l') else if k' = 5 then without 6 (.mk k n l) else decide (k = k') && decide (n = n') && agrees l l'
def agrees : List T → List T → Bool
  | a :: r, b :: s => agree a b && agrees r s
  | _, _ => true
end
mutual
/-- The meet of types that agree. -/
def meet : T → T → T
  | .mk k n l, .mk k' n' l' => if k = 5 then .mk k' n' l' else if k' = 5 then .mk k n l else .mk k n (meets l l')
def meets : List T → List T → List T
  | a :: r, b :: s => meet a b :: meets r s
  | _, _ => []
end
/-- Is one of two nodes a ?; do two nodes fit, as far as it does not hang on their kids? -/
def ends (x y : T) : Bool := decide (x.kind = 5) || decide (y.kind = 5)
def fit (x y : T) : Bool := if x.kind = 5 then without 6 y else if y.kind = 5 then without 6 x else decide (x.kind = y.kind) && decide (x.num = y.num)
def agz (p : List (T × T)) : Bool := p.all fun q => agree q.1 q.2
theorem agrees_zip : ∀ l m : List T, agrees l m = agz (l.zip m)
  | [], _ => by simp [agrees, agz]
  | _ :: _, [] => by simp [agrees, agz]
  | a :: r, b :: s => by simp only [agrees, List.zip_cons_cons, agz, List.all_cons, agrees_zip r s]
theorem agz_append (p q : List (T × T)) : agz (p ++ q) = (agz p && agz q) := by simp [agz]
theorem agree_node (x y : T) : agree x y = (fit x y && (ends x y || agz (x.kids.zip y.kids))) := by
  cases x with
  | mk k n l =>
    cases y with
    | mk k' n' l' =>
      simp only [agree, fit, ends, T.kind, T.num, T.kids, agrees_zip]
      by_cases h : k = 5
      · simp [h]
      · by_cases h' : k' = 5
        · simp [h, h']
        · simp [h, h']; rfl
theorem right_node {k n : Int} {l : List T} (h : right (.mk k n l) = true) : arity k = l.length ∧ rights l = true ∧ 0 ≤ n ∧ n ≤ 1048576 ∧ (k ≠ 6 → n = 0) := by
  simp only [right, nodeRight, Bool.and_eq_true, decide_eq_true_eq, Bool.or_eq_true] at h
  obtain ⟨⟨⟨⟨h1, h2⟩, h3⟩, h4⟩, h5⟩ := h
  exact ⟨h1, h5, h2, h3, fun h => h4.resolve_left h⟩
theorem right_dyn {n : Int} {l : List T} (h : right (.mk 5 n l) = true) : n = 0 ∧ l = [] := by
  obtain ⟨h1, _, _, _, h5⟩ := right_node h
  refine ⟨h5 (by omega), ?_⟩
  have : l.length = 0 := by simp [arity] at h1; omega
  exact List.length_eq_zero_iff.1 this
theorem kids_len {k n n' : Int} {l l' : List T} (h : right (.mk k n l) = true) (h' : right (.mk k n' l') = true) : l.length = l'.length := by
  have h1 := (right_node h).1
  have h2 := (right_node h').1
  omega
theorem rights_cons {t : T} {r : List T} (h : rights (t :: r) = true) : right t = true ∧ rights r = true := by simpa [rights] using h
mutual
theorem agree_comm : ∀ a b : T, right a = true → right b = true → agree a b = agree b a
  | .mk k n l, .mk k' n' l', ha, hb => by
    simp only [agree]
    by_cases h : k = 5
    · subst h
      by_cases h' : k' = 5
      · subst h'
        obtain ⟨rfl, rfl⟩ := right_dyn ha
        obtain ⟨rfl, rfl⟩ := right_dyn hb
        rfl
      · simp [h']
    · by_cases h' : k' = 5
      · simp [h, h']
      · simp only [h, h', if_false]
        by_cases hk : k = k'
        · subst hk
          rw [agrees_comm l l' (right_node ha).2.1 (right_node hb).2.1, decide_eq_decide.2 (eq_comm (a := n) (b := n'))]
        · have hk' : ¬ k' = k := fun h => hk h.symm
          simp [hk, hk']
theorem agrees_comm : ∀ a b : List T, rights a = true → rights b = true → agrees a b = agrees b a
  | [], [], _, _ => rfl
  | [], _ :: _, _, _ => rfl
  | _ :: _, [], _, _ => rfl
  | a :: r, b :: s, ha, hb => by
    simp only [agrees]
    rw [agree_comm a b (rights_cons ha).1 (rights_cons hb).1, agrees_comm r s (rights_cons ha).2 (rights_cons hb).2]
end
mutual
theorem agree_self : ∀ a : T, right a = true → agree a a = true
  | .mk k n l, ha => by
    simp only [agree]
    by_cases h : k = 5
    · subst h
      obtain ⟨rfl, rfl⟩ := right_dyn ha
      rfl
    · simp only [h, if_false, decide_true, Bool.true_and, agrees_self l (right_node ha).2.1]
theorem agrees_self : ∀ a : List T, rights a = true → agrees a a = true
  | [], _ => rfl
  | a :: r, ha => by simp only [agrees, agree_self a (rights_cons ha).1, agrees_self r (rights_cons ha).2, Bool.and_self]
end
mutual
theorem meet_self : ∀ a : T, meet a a = a
  | .mk k n l => by
    simp only [meet]
    by_cases h : k = 5
    · simp [h]
    · simp only [h, if_false, meets_self l]
theorem meets_self : ∀ a : List T, meets a a = a
  | [] => rfl
  | a :: r => by simp only [meets, meet_self a, meets_self r]
end
mutual
theorem meet_comm : ∀ a b : T, right a = true → right b = true → agree a b = true → meet a b = meet b a
  | .mk k n l, .mk k' n' l', ha, hb, hg => by
    simp only [agree] at hg
    simp only [meet]
    by_cases h : k = 5
    · subst h
      by_cases h' : k' = 5
      · subst h'
        obtain ⟨rfl, rfl⟩ := right_dyn ha
        obtain ⟨rfl, rfl⟩ := right_dyn hb
        rfl
      · simp [h']
    · by_cases h' : k' = 5
      · simp [h, h']
      · simp only [h, h', if_false, Bool.and_eq_true, decide_eq_true_eq] at hg ⊢
        obtain ⟨⟨h1, h2⟩, h3⟩ := hg
        subst h1 h2
        rw [meets_comm l l' (right_node ha).2.1 (right_node hb).2.1 h3]
theorem meets_comm : ∀ a b : List T, rights a = true → rights b = true → agrees a b = true → meets a b = meets b a
  | [], [], _, _, _ => rfl
  | [], _ :: _, _, _, _ => rfl
  | _ :: _, [], _, _, _ => rfl
  | a :: r, b :: s, ha, hb, hg => by
    simp only [agrees, Bool.and_eq_true] at hg
    simp only [meets]
    rw [meet_comm a b (rights_cons ha).1 (rights_cons hb).1 hg.1, meets_comm r s (rights_cons ha).2 (rights_cons hb).2 hg.2]
end
theorem meets_length : ∀ a b : List T, a.length = b.length → (meets a b).length = a.length
  | [], [], _ => rfl
  | a :: r, b :: s, h => by simp only [meets, List.length_cons, meets_length r s (by simpa using h)]
mutual
theorem meet_right : ∀ a b : T, right a = true → right b = true → agree a b = true → right (meet a b) = true
  | .mk k n l, .mk k' n' l', ha, hb, hg => by
    simp only [agree] at hg
    simp only [meet]
    by_cases h : k = 5
    · simpa [h] using hb
    · by_cases h' : k' = 5
      · simpa [h, h'] using ha
      · simp only [h, h', if_false, Bool.and_eq_true, decide_eq_true_eq] at hg ⊢
        obtain ⟨⟨h1, h2⟩, h3⟩ := hg
        subst h1 h2
        have hl := kids_len ha hb
        have hr := meets_right l l' (right_node ha).2.1 (right_node hb).2.1 h3
        simp only [right, meets_length l l' hl, hr, Bool.and_true] at ha ⊢
        exact (Bool.and_eq_true _ _ ▸ ha).1
theorem meets_right : ∀ a b : List T, rights a = true → rights b = true → agrees a b = true → rights (meets a b) = true
  | [], [], _, _, _ => rfl
  | [], _ :: _, _, _, _ => rfl
  | _ :: _, [], _, _, _ => rfl
  | a :: r, b :: s, ha, hb, hg => by
    simp only [agrees, Bool.and_eq_true] at hg
    simp only [meets, rights, meet_right a b (rights_cons ha).1 (rights_cons hb).1 hg.1, meets_right r s (rights_cons ha).2 (rights_cons hb).2 hg.2, Bool.and_self]
end
mutual
theorem without_meet (x : Int) : ∀ a b : T, without x a = true → without x b = true → without x (meet a b) = true
  | .mk k n l, .mk k' n' l', ha, hb => by
    simp only [meet]
    by_cases h : k = 5
    · simpa [h] using hb
    · by_cases h' : k' = 5
      · simpa [h, h'] using ha
      · simp only [h, h', if_false, without, Bool.and_eq_true] at ha hb ⊢
        exact ⟨ha.1, withouts_meets x l l' ha.2 hb.2⟩
theorem withouts_meets (x : Int) : ∀ a b : List T, withouts x a = true → withouts x b = true → withouts x (meets a b) = true
  | [], [], _, _ => rfl
  | [], _ :: _, _, _ => rfl
  | _ :: _, [], _, _ => rfl
  | a :: r, b :: s, ha, hb => by
    simp only [withouts, Bool.and_eq_true] at ha hb
    simp only [meets, withouts, without_meet x a b ha.1 hb.1, withouts_meets x r s ha.2 hb.2, Bool.and_self]
end
theorem meet_alike {k n n' : Int} {l l' : List T} (h : ¬ k = 5) : meet (.mk k n l) (.mk k n' l') = .mk k n (meets l l') := by unfold meet; rw [if_neg h, if_neg h]
theorem agree_alike {k n : Int} {l l' : List T} (h : ¬ k = 5) : agree (.mk k n l) (.mk k n l') = agrees l l' := by unfold agree; rw [if_neg h, if_neg h, decide_eq_true rfl, decide_eq_true rfl]; rfl
mutual
/-- What agrees agrees with its meet, and the meet of that and the first is the meet. -/
theorem agree_meet : ∀ a b : T, right a = true → right b = true → agree a b = true → agree a (meet a b) = true ∧ meet a (meet a b) = meet a b
  | .mk k n l, .mk k' n' l', ha, hb, hg => by
    by_cases h : k = 5
    · subst h
      simp only [agree, if_true] at hg
      simp only [meet, if_true, agree]
      exact ⟨hg, trivial⟩
    · by_cases h' : k' = 5
      · subst h'
        rw [show meet (.mk k n l) (.mk 5 n' l') = .mk k n l from by simp [meet, h]]
        exact ⟨agree_self _ ha, meet_self _⟩
      · simp only [agree, h, h', if_false, Bool.and_eq_true, decide_eq_true_eq] at hg
        obtain ⟨⟨h1, h2⟩, h3⟩ := hg
        subst h1 h2
        obtain ⟨i1, i2⟩ := agrees_meets l l' (right_node ha).2.1 (right_node hb).2.1 (kids_len ha hb) h3
        refine ⟨?_, ?_⟩
        · rw [meet_alike h, agree_alike h]; exact i1
        · rw [meet_alike h, meet_alike h, i2]
  termination_by a => 2 * size a
  decreasing_by all_goals (simp only [size]; omega)
theorem agrees_meets : ∀ a b : List T, rights a = true → rights b = true → a.length = b.length → agrees a b = true → agrees a (meets a b) = true ∧ meets a (meets a b) = meets a b
  | [], [], _, _, _, _ => ⟨rfl, rfl⟩
  | a :: r, b :: s, ha, hb, hl, hg => by
    simp only [agrees, Bool.and_eq_true] at hg
    obtain ⟨i1, i2⟩ := agree_meet a b (rights_cons ha).1 (rights_cons hb).1 hg.1
    obtain ⟨j1, j2⟩ := agrees_meets r s (rights_cons ha).2 (rights_cons hb).2 (by simpa using hl) hg.2
    refine ⟨?_, ?_⟩
    · simp only [meets, agrees, Bool.and_eq_true]; exact ⟨i1, j1⟩
    · simp only [meets]; rw [i2, j2]
  termination_by a => 2 * sizes a + 1
  decreasing_by all_goals (have := size_pos a; simp only [sizes]; omega)
end
mutual
/-- The first is no greater than the meet; a meet of a static one is static. -/
theorem meet_size : ∀ a b : T, right a = true → right b = true → agree a b = true → size a ≤ size (meet a b) ∧ (without 5 a = true → without 5 (meet a b) = true) ∧ size (meet a b) ≤ size a + size b
  | .mk k n l, .mk k' n' l', ha, hb, hg => by
    by_cases h : k = 5
    · subst h
      obtain ⟨rfl, rfl⟩ := right_dyn ha
      simp only [meet, if_true]
      refine ⟨?_, fun h => ?_, by omega⟩
      · simp [size, sizes]
      · simp [without] at h
    · by_cases h' : k' = 5
      · subst h'
        rw [show meet (.mk k n l) (.mk 5 n' l') = .mk k n l from by simp [meet, h]]
        exact ⟨Nat.le_refl _, id, by omega⟩
      · simp only [agree, h, h', if_false, Bool.and_eq_true, decide_eq_true_eq] at hg
        obtain ⟨⟨h1, h2⟩, h3⟩ := hg
        subst h1 h2
        obtain ⟨i1, i2, i3⟩ := meets_size l l' (right_node ha).2.1 (right_node hb).2.1 (kids_len ha hb) h3
        simp only [meet, h, if_false, size, without, Bool.and_eq_true]
        exact ⟨by omega, fun x => ⟨x.1, i2 x.2⟩, by omega⟩
theorem meets_size : ∀ a b : List T, rights a = true → rights b = true → a.length = b.length → agrees a b = true → sizes a ≤ sizes (meets a b) ∧ (withouts 5 a = true → withouts 5 (meets a b) = true) ∧ sizes (meets a b) ≤ sizes a + sizes b
  | [], [], _, _, _, _ => ⟨Nat.le_refl _, id, Nat.zero_le _⟩
  | a :: r, b :: s, ha, hb, hl, hg => by
    simp only [agrees, Bool.and_eq_true] at hg
    obtain ⟨i1, i2, i3⟩ := meet_size a b (rights_cons ha).1 (rights_cons hb).1 hg.1
    obtain ⟨j1, j2, j3⟩ := meets_size r s (rights_cons ha).2 (rights_cons hb).2 (by simpa using hl) hg.2
    simp only [meets, sizes, withouts, Bool.and_eq_true]
    exact ⟨by omega, fun x => ⟨i2 x.1, j2 x.2⟩, by omega⟩
end
mutual
/-- Static types agree just if they are the same. -/
theorem agree_static : ∀ a b : T, right a = true → right b = true → without 5 a = true → without 5 b = true → agree a b = same a b
  | .mk k n l, .mk k' n' l', ha, hb, sa, sb => by
    simp only [without, Bool.and_eq_true, Bool.not_eq_true', decide_eq_false_iff_not] at sa sb
    simp only [agree, same, sa.1, sb.1, if_false]
    by_cases hk : k = k'
    · subst hk
      have hl := kids_len ha hb
      rw [agrees_static l l' (right_node ha).2.1 (right_node hb).2.1 sa.2 sb.2]
      simp [hl]
    · simp [hk]
theorem agrees_static : ∀ a b : List T, rights a = true → rights b = true → withouts 5 a = true → withouts 5 b = true → agrees a b = sames a b
  | [], [], _, _, _, _ => rfl
  | [], _ :: _, _, _, _, _ => rfl
  | _ :: _, [], _, _, _, _ => rfl
  | a :: r, b :: s, ha, hb, sa, sb => by
    simp only [withouts, Bool.and_eq_true] at sa sb
    simp only [agrees, sames, agree_static a b (rights_cons ha).1 (rights_cons hb).1 sa.1 sb.1, agrees_static r s (rights_cons ha).2 (rights_cons hb).2 sa.2 sb.2]
end
end Go.Proofs.Yteolbbgnkbcfmaa.Tp
namespace Go.Proofs.Yteolbbgnkbcfmaa.Tp
/-- A type for a number. -/
abbrev Bd := Int × T
/-- What the first bind of a number says. -/
def look : List Bd → Int → Option T
  | [], _ => none
  | b :: r, n => if b.1 = n then some b.2 else look r n
mutual
/-- Types put for variables. -/
def sub (L : List Bd) : T → T | .mk k n l => if k = 6 then (look L n).getD (.mk k n l) else .mk k n (subs L l)
def subs (L : List Bd) : List T → List T | [] => [] | t :: r => sub L t :: subs L r
end
theorem subs_len (L : List Bd) : ∀ l : List T, (subs L l).length = l.length
  | [] => rfl
  | t :: r => by simp [subs, subs_len L r]
theorem subs_get (L : List Bd) : ∀ (l : List T) (i : Nat) (h : i < l.length) (h' : i < (subs L l).length), (subs L l)[i] = sub L l[i]
  | [], i, h, _ => by simp at h
  | t :: r, 0, _, _ => rfl
  | t :: r, i + 1, h, _ => by simp only [subs, List.getElem_cons_succ]; exact subs_get L r i (by simpa using h) _
theorem sub_var {L : List Bd} {n : Int} {l : List T} {u : T} (h : look L n = some u) : sub L (.mk 6 n l) = u := by simp [sub, h]
theorem sub_node {L : List Bd} {k n : Int} {l : List T} (h : ¬ k = 6) : sub L (.mk k n l) = .mk k n (subs L l) := by simp [sub, h]
theorem look_append (L M : List Bd) (n : Int) : look (L ++ M) n = (look L n).or (look M n) := by
  induction L with
  | nil => simp [look]
  | cons b r ih =>
    simp only [List.cons_append, look]
    split
    · rfl
    · exact ih
theorem look_mem {L : List Bd} {n : Int} {u : T} (h : look L n = some u) : (n, u) ∈ L := by
  induction L with
  | nil => simp [look] at h
  | cons b r ih =>
    simp only [look] at h
    split at h
    · rename_i e; injection h with h; subst h; subst e; simp
    · exact List.mem_cons_of_mem _ (ih h)
theorem look_none {L : List Bd} {n : Int} : look L n = none ↔ ¬ n ∈ L.map Prod.fst := by
  induction L with
  | nil => simp [look]
  | cons b r ih =>
    simp only [look, List.map_cons, List.mem_cons, not_or]
    split
    · rename_i e; simp [e]
    · rename_i e; rw [ih]; exact ⟨fun h => ⟨fun h2 => e h2.symm, h⟩, fun h => h.2⟩
/-- A bind's type is right, its number a variable's. -/
def bdRight (b : Bd) : Bool := decide (0 ≤ b.1) && decide (b.1 ≤ 1048576) && right b.2
theorem look_right {L : List Bd} (h : ∀ b ∈ L, right b.2 = true) {n : Int} {u : T} (hl : look L n = some u) : right u = true := h _ (look_mem hl)
mutual
theorem sub_right {L : List Bd} (h : ∀ b ∈ L, right b.2 = true) : ∀ t : T, right t = true → right (sub L t) = true
  | .mk k n l, ht => by
    by_cases hk : k = 6
    · subst hk
      simp only [sub, if_true]
      cases hl : look L n with
      | none => exact ht
      | some u => exact look_right h hl
    · rw [sub_node hk]
      have h1 := ht
      simp only [right, Bool.and_eq_true] at h1 ⊢
      rw [subs_len]
      exact ⟨h1.1, subs_right h l h1.2⟩
theorem subs_right {L : List Bd} (h : ∀ b ∈ L, right b.2 = true) : ∀ l : List T, rights l = true → rights (subs L l) = true
  | [], _ => rfl
  | t :: r, hl => by
    simp only [rights, Bool.and_eq_true] at hl
    simp only [subs, rights, Bool.and_eq_true]
    exact ⟨sub_right h t hl.1, subs_right h r hl.2⟩
end
mutual
theorem sub_nil : ∀ t : T, sub [] t = t
  | .mk k n l => by
    by_cases hk : k = 6
    · simp [sub, look, hk]
    · rw [sub_node hk, subs_nil l]
theorem subs_nil : ∀ l : List T, subs [] l = l
  | [] => rfl
  | t :: r => by simp only [subs, sub_nil t, subs_nil r]
end
mutual
/-- What is closed stays. -/
theorem sub_closed (L : List Bd) : ∀ t : T, without 6 t = true → sub L t = t
  | .mk k n l, h => by
    simp only [without, Bool.and_eq_true, Bool.not_eq_true', decide_eq_false_iff_not] at h
    rw [sub_node h.1, subs_closed L l h.2]
theorem subs_closed (L : List Bd) : ∀ l : List T, withouts 6 l = true → subs L l = l
  | [], _ => rfl
  | t :: r, h => by
    simp only [withouts, Bool.and_eq_true] at h
    simp only [subs, sub_closed L t h.1, subs_closed L r h.2]
end
mutual
/-- One behind the other is both at once, where what is put first is closed. -/
theorem sub_twice {L : List Bd} (M : List Bd) (h : ∀ b ∈ L, without 6 b.2 = true) : ∀ t : T, right t = true → sub M (sub L t) = sub (L ++ M) t
  | .mk k n l, ht => by
    by_cases hk : k = 6
    · subst hk
      simp only [sub, if_true, look_append]
      cases hl : look L n with
      | none => simp only [Option.getD_none, Option.none_or, sub, if_true]
      | some u => simp only [Option.getD_some, Option.some_or]; exact sub_closed M u (h _ (look_mem hl))
    · rw [sub_node hk, sub_node hk, sub_node hk, subs_twice M h l (right_node ht).2.1]
theorem subs_twice {L : List Bd} (M : List Bd) (h : ∀ b ∈ L, without 6 b.2 = true) : ∀ l : List T, rights l = true → subs M (subs L l) = subs (L ++ M) l
  | [], _ => rfl
  | t :: r, hl => by
    simp only [rights, Bool.and_eq_true] at hl
    simp only [subs, sub_twice M h t hl.1, subs_twice M h r hl.2]
end
/-- Composition, whatever is put. -/
def comp (L M : List Bd) : List Bd := L.map fun b => (b.1, sub M b.2)
theorem look_comp (L M : List Bd) (n : Int) : look (comp L M) n = (look L n).map (sub M) := by
  induction L with
  | nil => rfl
  | cons b r ih =>
    simp only [comp, List.map_cons, look]
    split
    · rfl
    · exact ih
mutual
theorem sub_comp (L M : List Bd) : ∀ t : T, right t = true → sub M (sub L t) = sub (comp L M ++ M) t
  | .mk k n l, ht => by
    by_cases hk : k = 6
    · subst hk
      simp only [sub, if_true, look_append, look_comp]
      cases hl : look L n with
      | none => simp only [Option.getD_none, Option.map_none, Option.none_or, sub, if_true]
      | some u => simp only [Option.getD_some, Option.map_some, Option.some_or]
    · rw [sub_node hk, sub_node hk, sub_node hk, subs_comp L M l (right_node ht).2.1]
theorem subs_comp (L M : List Bd) : ∀ l : List T, rights l = true → subs M (subs L l) = subs (comp L M ++ M) l
  | [], _ => rfl
  | t :: r, hl => by
    simp only [rights, Bool.and_eq_true] at hl
    simp only [subs, sub_comp L M t hl.1, subs_comp L M r hl.2]
end
mutual
/-- Does a number stand in a type? -/
def occ (n : Int) : T → Bool | .mk k m l => (decide (k = 6) && decide (m = n)) || occs n l
def occs (n : Int) : List T → Bool | [] => false | t :: r => occ n t || occs n r
end
theorem mem_addVar (k n m : Int) (acc : List Int) : m ∈ addVar k n acc ↔ m ∈ acc ∨ (k = 6 ∧ n = m) := by
  unfold addVar
  split
  · rename_i h
    simp only [List.mem_append, List.mem_singleton]
    exact ⟨fun h2 => h2.imp id fun e => ⟨h.1, e.symm⟩, fun h2 => h2.imp id fun e => e.2.symm⟩
  · rename_i h
    refine ⟨.inl, fun h2 => h2.elim id fun e => ?_⟩
    by_cases hn : n ∈ acc
    · exact e.2 ▸ hn
    · exact absurd ⟨e.1, hn⟩ h
mutual
theorem mem_vars : ∀ (t : T) (acc : List Int) (m : Int), m ∈ vars t acc ↔ m ∈ acc ∨ occ m t = true
  | .mk k n l, acc, m => by
    simp only [vars, occ, Bool.or_eq_true, Bool.and_eq_true, decide_eq_true_eq]
    rw [mem_varss l, mem_addVar, or_assoc]
theorem mem_varss : ∀ (l : List T) (acc : List Int) (m : Int), m ∈ varss l acc ↔ m ∈ acc ∨ occs m l = true
  | [], acc, m => by simp [varss, occs]
  | t :: r, acc, m => by simp only [varss, occs, Bool.or_eq_true]; rw [mem_varss r, mem_vars t, or_assoc]
end
theorem addVar_nodup {k n : Int} {acc : List Int} (h : acc.Nodup) : (addVar k n acc).Nodup := by
  unfold addVar
  split
  · rename_i hc
    rw [List.nodup_append]
    refine ⟨h, by simp, fun a ha b hb => ?_⟩
    rw [List.mem_singleton] at hb
    subst hb
    exact fun e => hc.2 (e ▸ ha)
  · exact h
mutual
theorem vars_nodup : ∀ (t : T) (acc : List Int), acc.Nodup → (vars t acc).Nodup
  | .mk k n l, acc, h => by simp only [vars]; exact varss_nodup l _ (addVar_nodup h)
theorem varss_nodup : ∀ (l : List T) (acc : List Int), acc.Nodup → (varss l acc).Nodup
  | [], _, h => by simpa [varss] using h
  | t :: r, acc, h => by simp only [varss]; exact varss_nodup r _ (vars_nodup t acc h)
end
mutual
/-- Only what stands there counts. -/
theorem sub_congr {L M : List Bd} : ∀ t : T, (∀ n, occ n t = true → look L n = look M n) → sub L t = sub M t
  | .mk k n l, h => by
    by_cases hk : k = 6
    · subst hk
      simp only [sub, if_true]
      rw [h n (by simp [occ])]
    · rw [sub_node hk, sub_node hk, subs_congr l (fun m hm => h m (by simp [occ, hm]))]
theorem subs_congr {L M : List Bd} : ∀ l : List T, (∀ n, occs n l = true → look L n = look M n) → subs L l = subs M l
  | [], _ => rfl
  | t :: r, h => by
    simp only [subs]
    rw [sub_congr t (fun n hn => h n (by simp [occs, hn])), subs_congr r (fun n hn => h n (by simp [occs, hn]))]
end
mutual
/-- Two substitutions that give one type agree on what stands there. -/
theorem sub_eq_look {L M : List Bd} : ∀ t : T, right t = true → sub L t = sub M t → ∀ n, occ n t = true → (look L n).getD (.mk 6 n []) = (look M n).getD (.mk 6 n [])
  | .mk k m l, ht, h, n, hn => by
    by_cases hk : k = 6
    · subst hk
      have hl : l = [] := by
        have := (right_node ht).1
        simp [arity] at this
        exact List.eq_nil_of_length_eq_zero (by omega)
      subst hl
      simp only [occ, occs, Bool.or_false, Bool.and_eq_true, decide_eq_true_eq] at hn
      simp only [sub, if_true] at h
      rw [hn.2] at h
      exact h
    · rw [sub_node hk, sub_node hk] at h
      injection h with _ _ h3
      simp only [occ, Bool.or_eq_true, Bool.and_eq_true, decide_eq_true_eq] at hn
      exact subs_eq_look l (right_node ht).2.1 h3 n (hn.resolve_left fun e => hk e.1)
theorem subs_eq_look {L M : List Bd} : ∀ l : List T, rights l = true → subs L l = subs M l → ∀ n, occs n l = true → (look L n).getD (.mk 6 n []) = (look M n).getD (.mk 6 n [])
  | [], _, _, n, hn => by simp [occs] at hn
  | t :: r, hr, h, n, hn => by
    simp only [rights, Bool.and_eq_true] at hr
    simp only [subs, List.cons.injEq] at h
    simp only [occs, Bool.or_eq_true] at hn
    rcases hn with hn | hn
    · exact sub_eq_look t hr.1 h.1 n hn
    · exact subs_eq_look r hr.2 h.2 n hn
end
end Go.Proofs.Yteolbbgnkbcfmaa.Tp
namespace Go.Proofs.Yteolbbgnkbcfmaa.Sg
open Tp (T)
/-- What a node says: its kind, level, kids, and the walk that met it last. -/
structure Cr where
  kind : Int
  level : Int
  a : Int
  b : Int
  met : Int
/-- A node: what it says, and the place of a node that has the same root, or its own. -/
structure Nd where
  c : Cr
  up : Nat
/-- r stands for p, n steps away. -/
def Rt (G : List Nd) : Nat → Nat → Nat → Prop
  | 0, p, r => r = p ∧ ∃ d, G[p]? = some d ∧ d.up = p
  | n + 1, p, r => ∃ d, G[p]? = some d ∧ d.up ≠ p ∧ Rt G n d.up r
theorem Rt.root {G : List Nd} : ∀ {n p r : Nat}, Rt G n p r → ∃ d, G[r]? = some d ∧ d.up = r
  | 0, p, r, h => by obtain ⟨rfl, h⟩ := h; exact h
  | n + 1, p, r, h => by obtain ⟨d, _, _, h⟩ := h; exact Rt.root h
theorem Rt.det {G : List Nd} : ∀ {n m p r s : Nat}, Rt G n p r → Rt G m p s → n = m ∧ r = s
  | 0, 0, p, r, s, h, h' => ⟨rfl, h.1.trans h'.1.symm⟩
  | 0, m + 1, p, r, s, h, h' => by
    obtain ⟨_, d, h1, h2⟩ := h; obtain ⟨d', h3, h4, _⟩ := h'
    rw [h1] at h3; injection h3 with h3; subst h3; exact absurd h2 h4
  | n + 1, 0, p, r, s, h, h' => by
    obtain ⟨_, d, h1, h2⟩ := h'; obtain ⟨d', h3, h4, _⟩ := h
    rw [h1] at h3; injection h3 with h3; subst h3; exact absurd h2 h4
  | n + 1, m + 1, p, r, s, h, h' => by
    obtain ⟨d, h1, _, h2⟩ := h; obtain ⟨d', h3, _, h4⟩ := h'
    rw [h1] at h3; injection h3 with h3; subst h3
    obtain ⟨e1, e2⟩ := Rt.det h2 h4
    exact ⟨by omega, e2⟩
theorem set_same {G : List Nd} {p : Nat} {d e : Nd} (h : G[p]? = some d) : (G.set p e)[p]? = some e := by
  rw [List.getElem?_set_self (List.getElem?_eq_some_iff.1 h).1]
theorem set_other {G : List Nd} {p q : Nat} (e : Nd) (h : q ≠ p) : (G.set p e)[q]? = G[q]? := by
  rw [List.getElem?_set_ne (fun x => h x.symm)]
/-- The way made shorter at one place: what stands for what stays, and no way gets longer. -/
theorem Rt.halve {G : List Nd} {p q : Nat} {d e : Nd} (hd : G[p]? = some d) (hq : d.up = q) (hne : q ≠ p) (he : G[q]? = some e) :
    ∀ (n x r : Nat), Rt G n x r → ∃ m, m ≤ n ∧ Rt (G.set p { d with up := e.up }) m x r := by
  intro n
  induction n using Nat.strongRecOn with
  | ind n ih =>
    intro x r h
    by_cases hx : x = p
    · subst hx
      cases n with
      | zero =>
        obtain ⟨_, d', h1, h2⟩ := h
        rw [hd] at h1; injection h1 with h1; subst h1; exact absurd (hq.symm.trans h2) hne
      | succ k =>
        obtain ⟨d', h1, h2, h3⟩ := h
        rw [hd] at h1; injection h1 with h1; subst h1
        rw [hq] at h3
        cases k with
        | zero =>
          obtain ⟨rfl, e', h4, h5⟩ := h3
          rw [he] at h4; injection h4 with h4; subst h4
          refine ⟨1, Nat.le_refl _, _, set_same hd, ?_, h5.symm, e, ?_, rfl⟩
          · show e.up ≠ x; rw [h5]; exact hne
          · show (G.set x { d with up := e.up })[e.up]? = some e
            rw [h5, set_other _ hne]; exact he
        | succ j =>
          obtain ⟨e', h4, h5, h6⟩ := h3
          rw [he] at h4; injection h4 with h4; subst h4
          obtain ⟨m, hm, h7⟩ := ih j (by omega) _ _ h6
          refine ⟨m + 1, by omega, _, set_same hd, ?_, h7⟩
          intro hc
          rw [show e.up = x from hc] at h6
          have := (Rt.det h6 (m := j + 2) ⟨d, hd, by rw [hq]; exact hne, by rw [hq]; exact ⟨e, he, h5, by rw [show e.up = x from hc]; exact h6⟩⟩).1
          omega
    · cases n with
      | zero =>
        obtain ⟨rfl, d', h1, h2⟩ := h
        exact ⟨0, Nat.le_refl _, rfl, d', by rw [set_other _ hx]; exact h1, h2⟩
      | succ k =>
        obtain ⟨d', h1, h2, h3⟩ := h
        obtain ⟨m, hm, h4⟩ := ih k (by omega) _ _ h3
        exact ⟨m + 1, by omega, d', by rw [set_other _ hx]; exact h1, h2, h4⟩
/-- One round of find: the next place is nearer. -/
theorem Rt.next {G : List Nd} {p q n r : Nat} {d e : Nd} (hd : G[p]? = some d) (hq : d.up = q) (hne : q ≠ p) (he : G[q]? = some e) (h : Rt G n p r) : ∃ m, m < n ∧ Rt (G.set p { d with up := e.up }) m e.up r := by
  cases n with
  | zero =>
    obtain ⟨_, d', h1, h2⟩ := h
    rw [hd] at h1; injection h1 with h1; subst h1; exact absurd (hq.symm.trans h2) hne
  | succ k =>
    obtain ⟨d', h1, h2, h3⟩ := h
    rw [hd] at h1; injection h1 with h1; subst h1
    rw [hq] at h3
    cases k with
    | zero =>
      obtain ⟨rfl, e', h4, h5⟩ := h3
      rw [he] at h4; injection h4 with h4; subst h4
      exact ⟨0, by omega, h5.symm, e, by rw [h5, set_other _ hne]; exact he, rfl⟩
    | succ j =>
      obtain ⟨e', h4, h5, h6⟩ := h3
      rw [he] at h4; injection h4 with h4; subst h4
      obtain ⟨m, hm, h7⟩ := Rt.halve hd hq hne he j _ _ h6
      exact ⟨m, by omega, h7⟩
/-- A graph, and the same graph with all ways made short. -/
structure Of (G H : List Nd) : Prop where
  len : G.length = H.length
  nd : ∀ p g h, G[p]? = some g → H[p]? = some h → g.c = h.c ∧ ∃ n, Rt G n p h.up
theorem Of.get {G H : List Nd} (h : Of G H) {p : Nat} {d : Nd} (hd : H[p]? = some d) : ∃ g, G[p]? = some g ∧ g.c = d.c ∧ ∃ n, Rt G n p d.up := by
  have hl : p < G.length := by rw [h.len]; exact (List.getElem?_eq_some_iff.1 hd).1
  exact ⟨G[p], List.getElem?_eq_getElem hl, h.nd p _ _ (List.getElem?_eq_getElem hl) hd⟩
theorem Of.back {G H : List Nd} (h : Of G H) {p : Nat} {g : Nd} (hg : G[p]? = some g) : ∃ d, H[p]? = some d ∧ g.c = d.c ∧ ∃ n, Rt G n p d.up := by
  have hl : p < H.length := by rw [← h.len]; exact (List.getElem?_eq_some_iff.1 hg).1
  exact ⟨H[p], List.getElem?_eq_getElem hl, h.nd p _ _ hg (List.getElem?_eq_getElem hl)⟩
/-- Whoever stands for itself in one stands for itself in the other. -/
theorem Of.self {G H : List Nd} (h : Of G H) {p : Nat} {g d : Nd} (hg : G[p]? = some g) (hd : H[p]? = some d) : g.up = p ↔ d.up = p := by
  obtain ⟨_, n, hr⟩ := h.nd p g d hg hd
  constructor
  · intro e
    exact (Rt.det hr (m := 0) ⟨rfl, g, hg, e⟩).2
  · intro e
    rw [e] at hr
    obtain ⟨g', h1, h2⟩ := Rt.root hr
    rw [hg] at h1; injection h1 with h1; rw [h1]; exact h2
theorem Of.halve {G H : List Nd} (h : Of G H) {p q : Nat} {d e : Nd} (hd : G[p]? = some d) (hq : d.up = q) (hne : q ≠ p) (he : G[q]? = some e) : Of (G.set p { d with up := e.up }) H := by
  refine ⟨by rw [List.length_set]; exact h.len, fun x g' h' hg hh => ?_⟩
  by_cases hx : x = p
  · subst hx
    rw [set_same hd] at hg; injection hg with hg; subst hg
    obtain ⟨h1, n, h4⟩ := h.nd x d h' hd hh
    obtain ⟨m, _, h5⟩ := Rt.halve hd hq hne he n _ _ h4
    exact ⟨h1, m, h5⟩
  · rw [set_other _ hx] at hg
    obtain ⟨h1, n, h4⟩ := h.nd x g' h' hg hh
    obtain ⟨m, _, h5⟩ := Rt.halve hd hq hne he n _ _ h4
    exact ⟨h1, m, h5⟩
/-- One that stood for itself is stood for by another one that does. -/
def link (H : List Nd) (p q : Nat) : List Nd := H.map fun x => if x.up = p then { x with up := q } else x
theorem link_get {H : List Nd} {p q x : Nat} {d : Nd} (h : H[x]? = some d) : (link H p q)[x]? = some (if d.up = p then { d with up := q } else d) := by
  unfold link; rw [List.getElem?_map, h]; rfl
theorem link_back {H : List Nd} {p q x : Nat} {d' : Nd} (h : (link H p q)[x]? = some d') : ∃ d, H[x]? = some d ∧ d' = if d.up = p then { d with up := q } else d := by
  unfold link at h
  rw [List.getElem?_map] at h
  cases hx : H[x]? with
  | none => rw [hx] at h; cases h
  | some d => rw [hx] at h; injection h with h; exact ⟨d, rfl, h.symm⟩
theorem link_len (H : List Nd) (p q : Nat) : (link H p q).length = H.length := by simp [link]
theorem Rt.far {G : List Nd} {p q : Nat} {d : Nd} (hd : G[p]? = some d) (hp : d.up = p) : ∀ (n x r : Nat), Rt G n x r → r ≠ p → Rt (G.set p { d with up := q }) n x r
  | 0, x, r, h, hr => by
    obtain ⟨rfl, e, h1, h2⟩ := h
    exact ⟨rfl, e, by rw [set_other _ hr]; exact h1, h2⟩
  | n + 1, x, r, h, hr => by
    obtain ⟨e, h1, h2, h3⟩ := h
    have hx : x ≠ p := fun hx => by subst hx; rw [hd] at h1; injection h1 with h1; subst h1; exact h2 hp
    exact ⟨e, by rw [set_other _ hx]; exact h1, h2, Rt.far hd hp n _ _ h3 hr⟩
theorem Rt.near {G : List Nd} {p q : Nat} {d e : Nd} (hd : G[p]? = some d) (hp : d.up = p) (he : G[q]? = some e) (hq : e.up = q) (hne : q ≠ p) : ∀ (n x : Nat), Rt G n x p → Rt (G.set p { d with up := q }) (n + 1) x q
  | 0, x, h => by
    obtain ⟨rfl, _⟩ := h
    exact ⟨_, set_same hd, hne, rfl, e, by rw [set_other _ hne]; exact he, hq⟩
  | n + 1, x, h => by
    obtain ⟨f, h1, h2, h3⟩ := h
    have hx : x ≠ p := fun hx => by subst hx; rw [hd] at h1; injection h1 with h1; subst h1; exact h2 hp
    exact ⟨f, by rw [set_other _ hx]; exact h1, h2, Rt.near hd hp he hq hne n _ h3⟩
theorem Of.link {G H : List Nd} (h : Of G H) {p q : Nat} {d e : Nd} (hd : G[p]? = some d) (hp : d.up = p) (he : G[q]? = some e) (hq : e.up = q) (hne : q ≠ p) : Of (G.set p { d with up := q }) (link H p q) := by
  refine ⟨by rw [List.length_set, link_len]; exact h.len, fun x g' h' hg hh => ?_⟩
  obtain ⟨y, hy, rfl⟩ := link_back hh
  have key : ∀ g, G[x]? = some g → ∃ n, Rt (G.set p { d with up := q }) n x (if y.up = p then { y with up := q } else y).up := fun g hg => by
    obtain ⟨_, n, h4⟩ := h.nd x g y hg hy
    by_cases hu : y.up = p
    · rw [if_pos hu]; rw [hu] at h4; exact ⟨_, Rt.near hd hp he hq hne n _ h4⟩
    · rw [if_neg hu]; exact ⟨_, Rt.far hd hp n _ _ h4 hu⟩
  have flds : (if y.up = p then { y with up := q } else y).c = y.c := by split <;> rfl
  by_cases hx : x = p
  · subst hx
    rw [set_same hd] at hg; injection hg with hg; subst hg
    obtain ⟨h1, _⟩ := h.nd x d y hd hy
    exact ⟨h1.trans flds.symm, key d hd⟩
  · rw [set_other _ hx] at hg
    obtain ⟨h1, _⟩ := h.nd x g' y hg hy
    exact ⟨h1.trans flds.symm, key g' hg⟩
/-- One node more, that stands for itself or is stood for by what a node stands for. -/
theorem Rt.snoc {G : List Nd} {d : Nd} : ∀ {n x r : Nat}, Rt G n x r → Rt (G ++ [d]) n x r
  | 0, x, r, h => by
    obtain ⟨rfl, e, h1, h2⟩ := h
    exact ⟨rfl, e, by rw [List.getElem?_append_left (List.getElem?_eq_some_iff.1 h1).1]; exact h1, h2⟩
  | n + 1, x, r, h => by
    obtain ⟨e, h1, h2, h3⟩ := h
    exact ⟨e, by rw [List.getElem?_append_left (List.getElem?_eq_some_iff.1 h1).1]; exact h1, h2, Rt.snoc h3⟩
theorem Of.snoc_own {G H : List Nd} (h : Of G H) {d : Nd} (hd : d.up = G.length) : Of (G ++ [d]) (H ++ [d]) := by
  refine ⟨by simp [h.len], fun x g' h' hg hh => ?_⟩
  by_cases hx : x < G.length
  · rw [List.getElem?_append_left hx] at hg
    rw [List.getElem?_append_left (by rw [← h.len]; exact hx)] at hh
    obtain ⟨h1, n, h4⟩ := h.nd x g' h' hg hh
    exact ⟨h1, n, h4.snoc⟩
  · have hxl := (List.getElem?_eq_some_iff.1 hg).1
    rw [List.length_append, List.length_singleton] at hxl
    obtain rfl : x = G.length := by omega
    have e1 : (G ++ [d])[G.length]? = some d := by simp
    have e2 : (H ++ [d])[G.length]? = some d := by rw [h.len]; simp
    rw [e1] at hg; injection hg with hg; subst hg
    rw [e2] at hh; injection hh with hh; subst hh
    exact ⟨rfl, 0, hd, d, e1, hd⟩
/-- What a node says is written. -/
theorem Rt.say {G : List Nd} {p : Nat} {d : Nd} (hd : G[p]? = some d) (c : Cr) : ∀ {n x r : Nat}, Rt G n x r → Rt (G.set p { d with c := c }) n x r
  | 0, x, r, h => by
    obtain ⟨rfl, e, h1, h2⟩ := h
    by_cases hx : r = p
    · subst hx; rw [hd] at h1; injection h1 with h1; subst h1; exact ⟨rfl, _, set_same hd, h2⟩
    · exact ⟨rfl, e, by rw [set_other _ hx]; exact h1, h2⟩
  | n + 1, x, r, h => by
    obtain ⟨e, h1, h2, h3⟩ := h
    by_cases hx : x = p
    · subst hx; rw [hd] at h1; injection h1 with h1; subst h1; exact ⟨_, set_same hd, h2, Rt.say hd c h3⟩
    · exact ⟨e, by rw [set_other _ hx]; exact h1, h2, Rt.say hd c h3⟩
theorem Of.say {G H : List Nd} (h : Of G H) {p : Nat} {d e : Nd} (hd : G[p]? = some d) (he : H[p]? = some e) (c : Cr) : Of (G.set p { d with c := c }) (H.set p { e with c := c }) := by
  refine ⟨by simp [h.len], fun x g' h' hg hh => ?_⟩
  by_cases hx : x = p
  · subst hx
    rw [set_same hd] at hg; injection hg with hg; subst hg
    rw [set_same he] at hh; injection hh with hh; subst hh
    obtain ⟨_, n, h4⟩ := h.nd x d e hd he
    exact ⟨rfl, n, Rt.say hd c h4⟩
  · rw [set_other _ hx] at hg hh
    obtain ⟨h1, n, h4⟩ := h.nd x g' h' hg hh
    exact ⟨h1, n, Rt.say hd c h4⟩
/-- A root is its own root. -/
theorem Of.root {G H : List Nd} (h : Of G H) {p : Nat} {d : Nd} (hd : H[p]? = some d) : ∃ e, H[d.up]? = some e ∧ e.up = d.up := by
  obtain ⟨g, hg, _, n, hr⟩ := h.get hd
  obtain ⟨g', h1, h2⟩ := Rt.root hr
  obtain ⟨e, he, _⟩ := h.back h1
  exact ⟨e, he, (h.self h1 he).1 h2⟩
end Go.Proofs.Yteolbbgnkbcfmaa.Sg

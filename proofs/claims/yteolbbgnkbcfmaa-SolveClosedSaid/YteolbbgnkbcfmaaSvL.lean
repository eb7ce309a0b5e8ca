/- Rounds looked into; what the sample's rounds come to. -/
import Derived.Test.YteolbbgnkbcfmaaSvK
namespace Go.Proofs.Yteolbbgnkbcfmaa
open Go Go.RowKit
open Tp (T)
open Sg (Of Rt Den Dens Alk Mkd trav travs rootOf kidsOf)
theorem Stp.inv {H : List SNd} {p : Pr} {Q : List Pr} {D : List (Nat × Nat)} {σ' : Wrk} (h : Stp ⟨H, p :: Q, D⟩ σ') {x y : Nat} (hx : rootOf H p.x = x) (hy : rootOf H p.y = y) :
    (x = y ∧ σ' = ⟨H, Q, D⟩) ∨ (x ≠ y ∧ (
      (kd H x = 5 ∧ ∃ (t : T) (H2 : List SNd), Den H t y ∧ Alk H H2 ∧ σ' = ⟨lows H2 (varsOf H (trav H t y [])) 0, Q, D⟩) ∨
      (kd H x ≠ 5 ∧ kd H y = 5 ∧ ∃ (t : T) (H2 : List SNd), Den H t x ∧ Alk H H2 ∧ σ' = ⟨lows H2 (varsOf H (trav H t x [])) 0, Q, D⟩) ∨
      (kd H x = 6 ∧ kd H y ≠ 5 ∧ ∃ (t u : T) (Hb H3 : List SNd) (z : Nat), Den H t y ∧ ¬ x ∈ trav H t y [] ∧ Bec H t y (kd H y) (lvl H x) Hb z u ∧ Alk Hb H3 ∧ σ' = psh (lnk H3 (varsOf Hb (trav Hb u z [])) (lvl H x) x z) Q D z y true) ∨
      (kd H x ≠ 6 ∧ kd H x ≠ 5 ∧ kd H y = 6 ∧ ∃ (t u : T) (Hb H3 : List SNd) (z : Nat), Den H t x ∧ ¬ y ∈ trav H t x [] ∧ Bec H t x (kd H x) (lvl H y) Hb z u ∧ Alk Hb H3 ∧ σ' = psh (lnk H3 (varsOf Hb (trav Hb u z [])) (lvl H y) y z) Q D x z true) ∨
      (kd H x ≠ 5 ∧ kd H x ≠ 6 ∧ kd H x = kd H y ∧ σ' = psh H Q D x y false))) := by
  subst hx hy
  cases h with
  | same hx hy h => subst hx hy; exact .inl ⟨h, rfl⟩
  | dynL hx hy hne hk hD ha => subst hx hy; exact .inr ⟨hne, .inl ⟨hk, _, _, hD, ha, rfl⟩⟩
  | dynR hx hy hne hk hk' hD ha => subst hx hy; exact .inr ⟨hne, .inr (.inl ⟨hk, hk', _, _, hD, ha, rfl⟩)⟩
  | varL hx hy hne hk hk' hD hno hb ha => subst hx hy; exact .inr ⟨hne, .inr (.inr (.inl ⟨hk, hk', _, _, _, _, _, hD, hno, hb, ha, rfl⟩))⟩
  | varR hx hy hne hk6 hk hk' hD hno hb ha => subst hx hy; exact .inr ⟨hne, .inr (.inr (.inr (.inl ⟨hk6, hk, hk', _, _, _, _, _, hD, hno, hb, ha, rfl⟩)))⟩
  | dec hx hy hne hk5 hk6 hk => subst hx hy; exact .inr ⟨hne, .inr (.inr (.inr (.inr ⟨hk5, hk6, hk, rfl⟩)))⟩
theorem Bad.inv {H : List SNd} {p : Pr} {Q : List Pr} {D : List (Nat × Nat)} {l r e : Int} (h : Bad ⟨H, p :: Q, D⟩ l r e) {x y : Nat} (hx : rootOf H p.x = x) (hy : rootOf H p.y = y) :
    x ≠ y ∧ ((kd H x ≠ 5 ∧ kd H y ≠ 5 ∧ kd H x ≠ 6 ∧ kd H y ≠ 6 ∧ kd H x ≠ kd H y ∧ l = kd H x ∧ r = kd H y ∧ e = 4) ∨
      (kd H x = 6 ∧ kd H y ≠ 5 ∧ l = 0 ∧ r = 0 ∧ e = 5 ∧ ∃ t, Den H t y ∧ x ∈ trav H t y []) ∨
      (kd H x ≠ 6 ∧ kd H x ≠ 5 ∧ kd H y = 6 ∧ l = 0 ∧ r = 0 ∧ e = 5 ∧ ∃ t, Den H t x ∧ y ∈ trav H t x [])) := by
  subst hx hy
  cases h with
  | clash hx hy hne h1 h2 h3 h4 hk => subst hx hy; exact ⟨hne, .inl ⟨h1, h2, h3, h4, hk, rfl, rfl, rfl⟩⟩
  | loopL hx hy hne hk hk' hD hin => subst hx hy; exact ⟨hne, .inr (.inl ⟨hk, hk', rfl, rfl, rfl, _, hD, hin⟩)⟩
  | loopR hx hy hne hk6 hk hk' hD hin => subst hx hy; exact ⟨hne, .inr (.inr ⟨hk6, hk, hk', rfl, rfl, rfl, _, hD, hin⟩)⟩
theorem kd_alk {A B : List SNd} (h : Alk A B) (r : Nat) : kd A r = kd B r := by
  unfold kd
  cases hA : A[r]? with
  | none =>
    have : B[r]? = none := by rw [List.getElem?_eq_none_iff] at hA ⊢; rw [← h.len]; exact hA
    rw [this]
  | some d => obtain ⟨e, q1, _, q3, _⟩ := h.get hA; rw [q1]; exact q3.symm
theorem lvl_alk {A B : List SNd} (h : Alk A B) (r : Nat) : lvl A r = lvl B r := by
  unfold lvl
  cases hA : A[r]? with
  | none =>
    have : B[r]? = none := by rw [List.getElem?_eq_none_iff] at hA ⊢; rw [← h.len]; exact hA
    rw [this]
  | some d => obtain ⟨e, q1, _, _, q4, _⟩ := h.get hA; rw [q1]; exact q4.symm
theorem kdN_alk {A B : List SNd} (h : Alk A B) (r : Nat) : kdN A r = kdN B r := by unfold kdN; rw [kidsOf_alk h r]
theorem alk_of {A B : List SNd} (hl : A.length = B.length) (h : ∀ (i : Nat) (d : SNd), A[i]? = some d → ∃ e : SNd, B[i]? = some e ∧ Sg.bare e = Sg.bare d) : Alk A B := by
  unfold Sg.Alk
  refine List.ext_getElem? (fun i => ?_)
  rw [List.getElem?_map, List.getElem?_map]
  cases hA : A[i]? with
  | none =>
    have : B[i]? = none := by rw [List.getElem?_eq_none_iff] at hA ⊢; rw [← hl]; exact hA
    rw [this]
  | some d => obtain ⟨e, q1, q2⟩ := h i d hA; rw [q1]; simp [q2]
theorem bare_parts {d e : SNd} (h : Sg.bare e = Sg.bare d) : e.up = d.up ∧ e.c.kind = d.c.kind ∧ e.c.level = d.c.level ∧ e.c.a = d.c.a ∧ e.c.b = d.c.b := by
  obtain ⟨⟨k, l, a, b, m⟩, u⟩ := d
  obtain ⟨⟨k', l', a', b', m'⟩, u'⟩ := e
  injection h with h1 h2
  injection h1 with a1 a2 a3 a4 _
  exact ⟨h2, a1, a2, a3, a4⟩
theorem bare_of {d e : SNd} (h : e.up = d.up ∧ e.c.kind = d.c.kind ∧ e.c.level = d.c.level ∧ e.c.a = d.c.a ∧ e.c.b = d.c.b) : Sg.bare e = Sg.bare d := by
  obtain ⟨⟨k, l, a, b, m⟩, u⟩ := d
  obtain ⟨⟨k', l', a', b', m'⟩, u'⟩ := e
  obtain ⟨h1, h2, h3, h4, h5⟩ := h
  simp only at h1 h2 h3 h4 h5
  subst h1 h2 h3 h4 h5
  rfl
theorem bare_get {A B : List SNd} (h : Alk A B) {i : Nat} {d : SNd} (hd : A[i]? = some d) : ∃ e : SNd, B[i]? = some e ∧ Sg.bare e = Sg.bare d := by
  have h1 := congrArg (fun l => l[i]?) h
  simp only [List.getElem?_map, hd, Option.map_some] at h1
  cases hB : B[i]? with
  | none => rw [hB] at h1; cases h1
  | some e => rw [hB] at h1; exact ⟨e, rfl, by simpa using h1.symm⟩
theorem lowAt_alk {A B : List SNd} (h : Alk A B) (v : Nat) (lv : Int) : Alk (lowAt A v lv) (lowAt B v lv) := by
  refine alk_of (by rw [lowAt_len, lowAt_len, h.len]) (fun i d hd => ?_)
  cases hv : A[v]? with
  | none =>
    have hB : B[v]? = none := by rw [List.getElem?_eq_none_iff] at hv ⊢; rw [← h.len]; exact hv
    have e1 : lowAt A v lv = A := by unfold lowAt; rw [hv]
    have e2 : lowAt B v lv = B := by unfold lowAt; rw [hB]
    rw [e1] at hd; rw [e2]; exact bare_get h hd
  | some dv =>
    obtain ⟨ev, q1, q2⟩ := bare_get h hv
    rw [lowAt_some hv] at hd
    rw [lowAt_some q1]
    by_cases hi : v = i
    · subst hi
      rw [List.getElem?_set_self (List.getElem?_eq_some_iff.1 hv).1] at hd
      injection hd with hd
      refine ⟨_, List.getElem?_set_self (List.getElem?_eq_some_iff.1 q1).1, ?_⟩
      rw [← hd]
      obtain ⟨h3, h6, h5, h7, h8⟩ := bare_parts q2
      exact bare_of ⟨h3, h6, by show min ev.c.level lv = min dv.c.level lv; rw [h5], h7, h8⟩
    · rw [List.getElem?_set_ne hi] at hd
      rw [List.getElem?_set_ne hi]
      exact bare_get h hd
theorem lows_alk (lv : Int) : ∀ (vs : List Nat) {A B : List SNd}, Alk A B → Alk (lows A vs lv) (lows B vs lv)
  | [], _, _, h => h
  | v :: r, _, _, h => lows_alk lv r (lowAt_alk h v lv)
theorem link_alk {A B : List SNd} (h : Alk A B) (v z : Nat) : Alk (Sg.link A v z) (Sg.link B v z) := by
  refine alk_of (by rw [Sg.link_len, Sg.link_len, h.len]) (fun i d hd => ?_)
  obtain ⟨d0, q1, q2⟩ := Sg.link_back hd
  obtain ⟨e0, r1, r2⟩ := bare_get h q1
  refine ⟨_, Sg.link_get r1, ?_⟩
  obtain ⟨h3, h6, h5, h7, h8⟩ := bare_parts r2
  rw [q2, h3]
  by_cases hv : d0.up = v
  · rw [if_pos hv, if_pos hv]; exact bare_of ⟨rfl, h6, h5, h7, h8⟩
  · rw [if_neg hv, if_neg hv]; exact r2
theorem lnk_alk {A B : List SNd} (h : Alk A B) (vs : List Nat) (lv : Int) (v z : Nat) : Alk (lnk A vs lv v z) (lnk B vs lv v z) := link_alk (lows_alk lv vs h) v z
/-- A node's type, found. -/
def treeF (H : List SNd) : Nat → Nat → T
  | 0, _ => .mk 0 0 []
  | n + 1, p => .mk (kd H (rootOf H p)) (if kd H (rootOf H p) = 6 then ((rootOf H p : Nat) : Int) else 0) ((kdN H (rootOf H p)).map (treeF H n))
def denB (H : List SNd) : Nat → Nat → Bool
  | 0, _ => false
  | n + 1, p => decide (p < H.length) && decide (rootOf H p < H.length) && decide (rootOf H (rootOf H p) = rootOf H p) && (kidsOf H (rootOf H p)).all (fun x => decide (0 ≤ x) && denB H n x.toNat)
theorem denB_den {H : List SNd} : ∀ {n p : Nat}, denB H n p = true → Den H (treeF H n p) p
  | 0, p, h => by cases h
  | n + 1, p, h => by
    unfold denB at h
    simp only [Bool.and_eq_true, decide_eq_true_eq] at h
    obtain ⟨⟨⟨h1, h2⟩, h3⟩, h4⟩ := h
    have hd : H[p]? = some H[p] := List.getElem?_eq_getElem h1
    have hr : H[rootOf H p]? = some H[rootOf H p] := List.getElem?_eq_getElem h2
    have e : rootOf H p = H[p].up := by unfold Sg.rootOf; rw [hd]
    have e3 : H[rootOf H p].up = rootOf H p := (rootOf_some hr).symm.trans h3
    rw [treeF]
    refine ⟨_, _, hd, by rw [← e]; exact hr, by rw [e3, ← e], (kd_of hr).symm, by rw [← e], ?_⟩
    have hk : kidsOf H (rootOf H p) = kidL H[rootOf H p].c.kind H[rootOf H p].c.a H[rootOf H p].c.b := by unfold Sg.kidsOf; rw [hr]
    rw [← hk]
    unfold kdN
    rw [List.all_eq_true] at h4
    have key : ∀ xs : List Int, (∀ x ∈ xs, (decide (0 ≤ x) && denB H n x.toNat) = true) → Dens H ((xs.map Int.toNat).map (treeF H n)) xs := fun xs => by
      induction xs with
      | nil => intro _; rfl
      | cons x r ih =>
        intro hx
        have h5 := hx x (by simp)
        simp only [Bool.and_eq_true, decide_eq_true_eq] at h5
        exact ⟨x.toNat, r, by rw [Int.toNat_of_nonneg h5.1], denB_den h5.2, ih (fun y hy => hx y (List.mem_cons_of_mem _ hy))⟩
    exact key _ h4
end Go.Proofs.Yteolbbgnkbcfmaa

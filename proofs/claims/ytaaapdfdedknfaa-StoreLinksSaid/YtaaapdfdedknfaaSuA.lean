/- What links, levels and marks leave of a node that was made. -/
import Derived.Test.YtaaapdfdedknfaaStZ
import Derived.Test.YtaaapdfdedknfaaStU
namespace Go.Proofs.Ytaaapdfdedknfaa
open Go Go.RowKit
open Tp (T)
open Sg (Of Rt Den Dens Alk Mkd trav travs rootOf kidsOf)
/-- Every own root stands as it stood but for its mark and level. -/
def Car (H H' : List SNd) : Prop := ∀ (i : Nat) (d : SNd), H[i]? = some d → d.up = i → ∃ d' : SNd, H'[i]? = some d' ∧ d'.up = i ∧ d'.c.kind = d.c.kind ∧ d'.c.a = d.c.a ∧ d'.c.b = d.c.b
theorem Car.trans {A B C : List SNd} (h : Car A B) (k : Car B C) : Car A C := fun i d h1 h2 => by
  obtain ⟨d', q1, q2, q3, q4, q5⟩ := h i d h1 h2
  obtain ⟨d2, r1, r2, r3, r4, r5⟩ := k i d' q1 q2
  exact ⟨d2, r1, r2, r3.trans q3, r4.trans q4, r5.trans q5⟩
theorem Car.of_alk {A B : List SNd} (h : Alk A B) : Car A B := fun i d h1 h2 => by
  obtain ⟨e, q1, q2, q3, _, q5, q6⟩ := h.get h1
  exact ⟨e, q1, q2.trans h2, q3, q5, q6⟩
theorem Car.of_grow {lev : Int} {H H' : List SNd} {M M' : IMap} (h : Grow lev H M H' M') : Car H H' := fun _ d h1 h2 => ⟨d, h.get h1, h2, rfl, rfl, rfl⟩
theorem Car.snoc (H : List SNd) (e : SNd) : Car H (H ++ [e]) := fun i d h1 h2 => ⟨d, by rw [List.getElem?_append_left (List.getElem?_eq_some_iff.1 h1).1]; exact h1, h2, rfl, rfl, rfl⟩
theorem Car.lowAt (H : List SNd) (v : Nat) (lv : Int) : Car H (lowAt H v lv) := fun i d h1 h2 => by
  cases hv : H[v]? with
  | none => exact ⟨d, by unfold Go.Proofs.Ytaaapdfdedknfaa.lowAt; rw [hv]; exact h1, h2, rfl, rfl, rfl⟩
  | some e =>
    rw [lowAt_some hv]
    by_cases hi : v = i
    · subst hi
      rw [h1] at hv; injection hv with hv; subst hv
      exact ⟨_, List.getElem?_set_self (List.getElem?_eq_some_iff.1 h1).1, h2, rfl, rfl, rfl⟩
    · exact ⟨d, by rw [List.getElem?_set_ne hi]; exact h1, h2, rfl, rfl, rfl⟩
theorem Car.refl (H : List SNd) : Car H H := fun _ d h1 h2 => ⟨d, h1, h2, rfl, rfl, rfl⟩
theorem Car.lows (lv : Int) : ∀ (vs : List Nat) (H : List SNd), Car H (lows H vs lv)
  | [], H => Car.refl H
  | v :: r, H => (Car.lowAt H v lv).trans (Car.lows lv r _)
/-- A link of a root that is none of these. -/
theorem Car.link {A H : List SNd} (h : Car A H) {v q : Nat} (hv : A.length ≤ v) : Car A (Sg.link H v q) := fun i d h1 h2 => by
  obtain ⟨d', q1, q2, q3⟩ := h i d h1 h2
  have hi := (List.getElem?_eq_some_iff.1 h1).1
  have h4 := Sg.link_get (p := v) (q := q) q1
  rw [if_neg (by omega)] at h4
  exact ⟨d', h4, q2, q3⟩
mutual
theorem Im.carry {H H' : List SNd} {M : IMap} (hc : Car H H') : ∀ {t : T} {p : Nat}, Im H M t p → Im H' M t p
  | .mk k n l, p, h => by
    obtain ⟨d, h1, h2, h3, h4, h5⟩ := h
    obtain ⟨d', q1, q2, q3, q4, q5⟩ := hc p d h1 h2
    exact ⟨d', q1, q2, q3.trans h3, h4, by rw [q3, q4, q5]; exact Ims.carry hc h5⟩
theorem Ims.carry {H H' : List SNd} {M : IMap} (hc : Car H H') : ∀ {l : List T} {xs : List Int}, Ims H M l xs → Ims H' M l xs
  | [], xs, h => h
  | t :: ts, xs, h => by
    obtain ⟨q, rest, h1, h2, h3⟩ := h
    exact ⟨q, rest, h1, Im.carry hc h2, Ims.carry hc h3⟩
end
theorem MapOk.carry {H H' : List SNd} {M : IMap} (hc : Car H H') (h : MapOk H M) : MapOk H' M := fun k p hk => by
  obtain ⟨d, h1, h2, h3⟩ := h k p hk
  obtain ⟨d', q1, q2, q3, _⟩ := hc p d h1 h2
  exact ⟨d', q1, q2, q3.trans h3⟩
/-- The level of one own root. -/
def LvAt (H : List SNd) (i : Nat) (lv : Int) : Prop := ∃ d : SNd, H[i]? = some d ∧ d.up = i ∧ d.c.kind = 6 ∧ d.c.level = lv
theorem LvAt.alk {A B : List SNd} (h : Alk A B) {i : Nat} {lv : Int} (k : LvAt A i lv) : LvAt B i lv := by
  obtain ⟨d, h1, h2, h3, h4⟩ := k
  obtain ⟨e, q1, q2, q3, q4, _⟩ := h.get h1
  exact ⟨e, q1, q2.trans h2, q3.trans h3, q4.trans h4⟩
theorem LvAt.snoc {H : List SNd} {i : Nat} {lv : Int} (k : LvAt H i lv) (e : SNd) : LvAt (H ++ [e]) i lv := by
  obtain ⟨d, h1, h2, h3, h4⟩ := k
  exact ⟨d, by rw [List.getElem?_append_left (List.getElem?_eq_some_iff.1 h1).1]; exact h1, h2, h3, h4⟩
theorem LvAt.lowAt {H : List SNd} {i : Nat} {lv : Int} (k : LvAt H i lv) (v : Nat) (c : Int) : LvAt (lowAt H v c) i (if v = i then min lv c else lv) := by
  obtain ⟨d, h1, h2, h3, h4⟩ := k
  cases hv : H[v]? with
  | none =>
    have hne : v ≠ i := fun e => by rw [e, h1] at hv; cases hv
    rw [if_neg hne]
    exact ⟨d, by unfold Go.Proofs.Ytaaapdfdedknfaa.lowAt; rw [hv]; exact h1, h2, h3, h4⟩
  | some e =>
    rw [lowAt_some hv]
    by_cases hi : v = i
    · subst hi
      rw [h1] at hv; injection hv with hv; subst hv
      rw [if_pos rfl]
      exact ⟨_, List.getElem?_set_self (List.getElem?_eq_some_iff.1 h1).1, h2, h3, by show min d.c.level c = _; rw [h4]⟩
    · rw [if_neg hi]
      exact ⟨d, by rw [List.getElem?_set_ne hi]; exact h1, h2, h3, h4⟩
theorem LvAt.lows {i : Nat} (c : Int) : ∀ (vs : List Nat) {H : List SNd} {lv : Int}, LvAt H i lv → LvAt (lows H vs c) i (if i ∈ vs then min lv c else lv)
  | [], H, lv, k => by rw [if_neg (by simp)]; exact k
  | v :: r, H, lv, k => by
    have h1 := LvAt.lows c r (k.lowAt v c)
    have e : (if i ∈ r then min (if v = i then min lv c else lv) c else (if v = i then min lv c else lv)) = if i ∈ v :: r then min lv c else lv := by
      by_cases hv : v = i
      · subst hv; simp only [if_true, List.mem_cons, true_or]; split <;> omega
      · rw [if_neg hv]
        by_cases hr : i ∈ r
        · rw [if_pos hr, if_pos (List.mem_cons_of_mem _ hr)]
        · rw [if_neg hr, if_neg (fun h => by rcases List.mem_cons.1 h with h | h; exact hv h.symm; exact hr h)]
    rw [← e]; exact h1
theorem LvAt.link {H : List SNd} {i : Nat} {lv : Int} (k : LvAt H i lv) {v q : Nat} (hv : i ≠ v) : LvAt (Sg.link H v q) i lv := by
  obtain ⟨d, h1, h2, h3, h4⟩ := k
  have h5 := Sg.link_get (p := v) (q := q) h1
  rw [if_neg (by omega)] at h5
  exact ⟨d, h5, h2, h3, h4⟩
/-- Two states that carry one map have the same variables within. -/
theorem vars_len_same {H H' : List SNd} {M : IMap} {t : T} {p : Nat} (h : Im H M t p) (hok : MapOk H M) (hc : Car H H') (hocc : ∀ k q, M k = some q → occ t k) :
    (varsOf H' (trav H' (ren M t) p [])).length = (varsOf H (trav H (ren M t) p [])).length ∧ ∀ i, i ∈ varsOf H' (trav H' (ren M t) p []) ↔ i ∈ varsOf H (trav H (ren M t) p []) := by
  have h' := h.carry hc
  have hok' := hok.carry hc
  have hm : ∀ i, i ∈ varsOf H' (trav H' (ren M t) p []) ↔ i ∈ varsOf H (trav H (ren M t) p []) := fun i => by rw [vars_of_im h' hok' hocc, vars_of_im h hok hocc]
  refine ⟨?_, hm⟩
  refine List.Perm.length_eq ((List.perm_ext_iff_of_nodup ?_ ?_).2 hm)
  · exact List.Sublist.nodup List.filter_sublist (trav_nodup h' List.nodup_nil)
  · exact List.Sublist.nodup List.filter_sublist (trav_nodup h List.nodup_nil)
end Go.Proofs.Ytaaapdfdedknfaa

/- What lies within a node that was made: every variable of its type, once. -/
import Derived.Test.YtaaapdfdedknfaaStW
namespace Go.Proofs.Ytaaapdfdedknfaa
open Go Go.RowKit
open Tp (T)
open Sg (Of Rt Den Dens Alk Mkd trav travs rootOf kidsOf)
theorem Im.root {H : List SNd} {M : IMap} {t : T} {p : Nat} (h : Im H M t p) : rootOf H p = p := by
  cases t with
  | mk k n l => obtain ⟨d, h1, h2, _⟩ := h; unfold rootOf; rw [h1]; exact h2
theorem Im.kids {H : List SNd} {M : IMap} {t : T} {p : Nat} (h : Im H M t p) : Ims H M t.kids (kidsOf H p) := by
  cases t with
  | mk k n l => obtain ⟨d, h1, h2, h3, h4, h5⟩ := h; unfold kidsOf; rw [h1]; exact h5
theorem ren_kids (M : IMap) (t : T) : (ren M t).kids = rens M t.kids := by cases t; rfl
mutual
theorem trav_im {H : List SNd} {M : IMap} : ∀ {t : T} {p : Nat} {Y : List Nat} {i : Nat}, Im H M t p → i ∈ trav H (ren M t) p Y → i ∈ Y ∨ ∃ u, Im H M u i ∧ Tp.size u ≤ Tp.size t
  | .mk k n l, p, Y, i, h, hi => by
    have hr := h.root
    by_cases hy : rootOf H p ∈ Y
    · rw [Sg.trav_in hy] at hi; exact .inl hi
    · rw [Sg.trav_out hy, hr, ren_kids] at hi
      rcases List.mem_append.1 hi with hi | hi
      · rcases travs_im h.kids hi with h1 | ⟨u, h1, h2⟩
        · exact .inl h1
        · exact .inr ⟨u, h1, by simp only [Tp.T.kids] at h2; simp only [Tp.size]; omega⟩
      · rw [List.mem_singleton.1 hi]; exact .inr ⟨_, h, Nat.le_refl _⟩
theorem travs_im {H : List SNd} {M : IMap} : ∀ {l : List T} {xs : List Int} {Y : List Nat} {i : Nat}, Ims H M l xs → i ∈ travs H (rens M l) xs Y → i ∈ Y ∨ ∃ u, Im H M u i ∧ Tp.size u ≤ Tp.sizes l
  | [], xs, Y, i, h, hi => by simp only [rens, travs] at hi; exact .inl hi
  | t :: ts, xs, Y, i, h, hi => by
    obtain ⟨q, rest, rfl, h2, h3⟩ := h
    simp only [rens, travs, Int.toNat_natCast] at hi
    rcases travs_im h3 hi with h4 | ⟨u, h4, h5⟩
    · rcases trav_im h2 h4 with h5 | ⟨u, h5, h6⟩
      · exact .inl h5
      · exact .inr ⟨u, h5, by simp only [Tp.sizes]; omega⟩
    · exact .inr ⟨u, h4, by simp only [Tp.sizes]; omega⟩
end
theorem Im.size_det {H : List SNd} {M : IMap} {t u : T} {p : Nat} (h : Im H M t p) (k : Im H M u p) : Tp.size t = Tp.size u := by
  have e := Den.det h.den k.den rfl
  rw [← ren_size M t, e, ren_size M u]
mutual
theorem trav_nodup {H : List SNd} {M : IMap} : ∀ {t : T} {p : Nat} {Y : List Nat}, Im H M t p → Y.Nodup → (trav H (ren M t) p Y).Nodup
  | .mk k n l, p, Y, h, hY => by
    have hr := h.root
    by_cases hy : rootOf H p ∈ Y
    · rw [Sg.trav_in hy]; exact hY
    · rw [Sg.trav_out hy, hr, ren_kids]
      rw [hr] at hy
      refine List.nodup_append.2 ⟨travs_nodup h.kids hY, by simp, fun a ha b hb e => ?_⟩
      rw [List.mem_singleton] at hb
      rw [e, hb] at ha
      rcases travs_im h.kids ha with h1 | ⟨u, h1, h2⟩
      · exact hy h1
      · have := Im.size_det h h1
        simp only [Tp.T.kids] at h2
        simp only [Tp.size] at this
        omega
theorem travs_nodup {H : List SNd} {M : IMap} : ∀ {l : List T} {xs : List Int} {Y : List Nat}, Ims H M l xs → Y.Nodup → (travs H (rens M l) xs Y).Nodup
  | [], xs, Y, h, hY => by simp only [rens, travs]; exact hY
  | t :: ts, xs, Y, h, hY => by
    obtain ⟨q, rest, rfl, h2, h3⟩ := h
    simp only [rens, travs, Int.toNat_natCast]
    exact travs_nodup h3 (trav_nodup h2 hY)
end
/-- With a node lies all that is within it. -/
def Clo (H : List SNd) (Y : List Nat) : Prop := ∀ i ∈ Y, ∀ x ∈ kidsOf H i, rootOf H x.toNat ∈ Y
theorem Ims.len {H : List SNd} {M : IMap} : ∀ {l : List T} {xs : List Int}, Ims H M l xs → l.length = xs.length
  | [], xs, h => by rw [show xs = [] from h]; rfl
  | t :: ts, xs, h => by obtain ⟨q, rest, rfl, _, h3⟩ := h; simp [Ims.len h3]
theorem rens_len (M : IMap) : ∀ l : List T, (rens M l).length = l.length
  | [] => rfl
  | t :: ts => by simp [rens, rens_len M ts]
mutual
theorem trav_clo {H : List SNd} {M : IMap} : ∀ {t : T} {p : Nat} {Y : List Nat}, Im H M t p → Clo H Y → Clo H (trav H (ren M t) p Y)
  | .mk k n l, p, Y, h, hY => by
    have hr := h.root
    by_cases hy : rootOf H p ∈ Y
    · rw [Sg.trav_in hy]; exact hY
    · rw [Sg.trav_out hy, hr, ren_kids]
      intro i hi x hx
      rcases List.mem_append.1 hi with hi | hi
      · exact List.mem_append_left _ (travs_clo h.kids hY i hi x hx)
      · rw [List.mem_singleton.1 hi] at hx
        exact List.mem_append_left _ (travs_mem _ _ _ (by rw [rens_len]; exact h.kids.len) x hx)
theorem travs_clo {H : List SNd} {M : IMap} : ∀ {l : List T} {xs : List Int} {Y : List Nat}, Ims H M l xs → Clo H Y → Clo H (travs H (rens M l) xs Y)
  | [], xs, Y, h, hY => by simp only [rens, travs]; exact hY
  | t :: ts, xs, Y, h, hY => by
    obtain ⟨q, rest, rfl, h2, h3⟩ := h
    simp only [rens, travs, Int.toNat_natCast]
    exact travs_clo h3 (trav_clo h2 hY)
end
mutual
theorem clo_occ {H : List SNd} {M : IMap} {Z : List Nat} (hZ : Clo H Z) {i : Int} {q : Nat} (hM : M i = some q) : ∀ {t : T} {p : Nat}, Im H M t p → p ∈ Z → occ t i → q ∈ Z
  | .mk k n l, p, h, hp, ho => by
    rcases ho with ⟨h1, h2⟩ | ho
    · obtain ⟨d, _, _, _, h4, _⟩ := h
      have := h4 h1
      rw [h2, hM] at this
      injection this with this
      rw [this]; exact hp
    · exact clo_occs hZ hM h.kids (fun x hx => hZ p hp x hx) ho
theorem clo_occs {H : List SNd} {M : IMap} {Z : List Nat} (hZ : Clo H Z) {i : Int} {q : Nat} (hM : M i = some q) : ∀ {l : List T} {xs : List Int}, Ims H M l xs → (∀ x ∈ xs, rootOf H x.toNat ∈ Z) → occs l i → q ∈ Z
  | [], xs, _, _, ho => ho.elim
  | t :: ts, xs, h, hx, ho => by
    obtain ⟨p, rest, rfl, h2, h3⟩ := h
    rcases ho with ho | ho
    · have h4 := hx (p : Int) (by simp)
      rw [Int.toNat_natCast, h2.root] at h4
      exact clo_occ hZ hM h2 h4 ho
    · exact clo_occs hZ hM h3 (fun x h => hx x (List.mem_cons_of_mem _ h)) ho
end
/-- The variables within a node that was made are the map's. -/
theorem vars_of_im {H : List SNd} {M : IMap} {t : T} {p : Nat} (h : Im H M t p) (hok : MapOk H M) (hocc : ∀ k q, M k = some q → occ t k) (i : Nat) : i ∈ varsOf H (trav H (ren M t) p []) ↔ ∃ k, M k = some i := by
  unfold varsOf
  rw [List.mem_filter]
  constructor
  · rintro ⟨h1, h2⟩
    rcases trav_im h h1 with h3 | ⟨u, h3, _⟩
    · cases h3
    · cases u with
      | mk k n l =>
        obtain ⟨d, q1, q2, q3, q4, _⟩ := h3
        unfold isV at h2
        rw [q1] at h2
        exact ⟨n, q4 (by rw [← q3]; exact of_decide_eq_true h2)⟩
  · rintro ⟨k, hk⟩
    refine ⟨clo_occ (trav_clo h (fun i hi => by cases hi)) hk h ?_ (hocc k i hk), ?_⟩
    · have := Sg.trav_mem (H := H) (ren M t) p []; rw [h.root] at this; exact this
    · obtain ⟨d, q1, q2, q3⟩ := hok k i hk
      unfold isV; rw [q1]; exact decide_eq_true q3
theorem idx_cnt (H : List SNd) : ∀ n, n ≤ H.length → ((List.range n).filter (isV H)).length = vcnt (H.take n)
  | 0, _ => rfl
  | n + 1, h => by
    rw [List.range_succ, List.filter_append, List.length_append, idx_cnt H n (by omega), List.take_succ_eq_append_getElem (by omega), vcnt_snoc]
    congr 1
    have e : isV H n = decide (H[n].c.kind = 6) := by unfold isV; rw [List.getElem?_eq_getElem (by omega)]
    by_cases hk : H[n].c.kind = 6
    · rw [if_pos hk]; simp [e, hk]
    · rw [if_neg hk]; simp [e, hk]
/-- How many variables lie within a node that was made with a new map. -/
theorem vars_count {lev : Int} {H0 H : List SNd} {M : IMap} (hg : Grow lev H0 (fun _ => none) H M) {t : T} {p : Nat} (h : Im H M t p) (hocc : ∀ k q, M k = some q → occ t k) :
    (varsOf H (trav H (ren M t) p [])).length + vcnt H0 = vcnt H := by
  have hok : MapOk H M := hg.ok (fun k p h => by cases h)
  have hl := hg.len
  have hv : ∀ i, isV H i = true ↔ ∃ d, H[i]? = some d ∧ d.c.kind = 6 := fun i => by
    unfold isV
    cases hd : H[i]? with
    | none => simp
    | some d => simp
  have hv0 : ∀ i, i < H0.length → isV H0 i = isV H i := fun i hi => by
    have h1 := List.getElem?_eq_getElem hi
    unfold isV; rw [h1, hg.get h1]
  have hperm : (varsOf H (trav H (ren M t) p []) ++ (List.range H0.length).filter (isV H0)).Perm ((List.range H.length).filter (isV H)) := by
    refine (List.perm_ext_iff_of_nodup ?_ (List.Sublist.nodup List.filter_sublist List.nodup_range)).2 fun i => ?_
    · refine List.nodup_append.2 ⟨List.Sublist.nodup List.filter_sublist (trav_nodup h List.nodup_nil), List.Sublist.nodup List.filter_sublist List.nodup_range, fun a ha b hb e => ?_⟩
      obtain ⟨k, hk⟩ := (vars_of_im h hok hocc a).1 ha
      rcases hg.new k a hk with h1 | ⟨h1, _⟩
      · cases h1
      · have := List.mem_range.1 (List.mem_filter.1 hb).1
        omega
    · rw [List.mem_append, vars_of_im h hok hocc, List.mem_filter, List.mem_filter, List.mem_range, List.mem_range]
      constructor
      · rintro (⟨k, hk⟩ | ⟨h1, h2⟩)
        · obtain ⟨d, q1, _, q3⟩ := hok k i hk
          exact ⟨(List.getElem?_eq_some_iff.1 q1).1, (hv i).2 ⟨d, q1, q3⟩⟩
        · exact ⟨by omega, by rw [← hv0 i h1]; exact h2⟩
      · rintro ⟨h1, h2⟩
        by_cases hi : i < H0.length
        · exact .inr ⟨hi, by rw [hv0 i hi]; exact h2⟩
        · obtain ⟨d, q1, q2⟩ := (hv i).1 h2
          exact .inl (hg.back i d (by omega) q1 q2)
  have := hperm.length_eq
  rw [List.length_append, idx_cnt H0 _ (Nat.le_refl _), idx_cnt H _ (Nat.le_refl _), List.take_length, List.take_length] at this
  exact this
end Go.Proofs.Ytaaapdfdedknfaa

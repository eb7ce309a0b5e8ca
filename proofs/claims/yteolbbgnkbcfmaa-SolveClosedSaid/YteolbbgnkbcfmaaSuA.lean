/- What links, levels and marks leave of a node that was made. What a link leaves of what other nodes stand for; a node that was made has as many variables within it as the type. -/
import Derived.Test.YteolbbgnkbcfmaaStW
import Derived.Test.YteolbbgnkbcfmaaStU
namespace Go.Proofs.Yteolbbgnkbcfmaa
open Go Go.RowKit
open Tp (T)
open Sg (Of Rt Den Dens Alk Mkd trav travs rootOf kidsOf)
/-- Every own root stands as it stood but for its mark and level. -/
def Car (H H' : List SNd) : Prop := ∀ (i : Nat) (d : SNd), H[i]? = some d → d.up = i → ∃ d' : SNd, H'[i]? = some d' ∧ d'.up = i ∧ d'.c.kind = d.c.kind ∧ d'.c.a = d.c.a ∧ d'.c.b = d.c.b
theorem Car.trans {A B C : List SNd} (h : Car A B) (k : Car B C) : Car A C := fun i d h1 h2 => by
  obtain ⟨d', q1, q2, q3, q4, q5⟩ := h i d h1 h2
  obtain ⟨d2, r1, r2, r3, r4, r5⟩ := k i d' q1 q2
  exact ⟨d2, r1, r2, r3.trans q3, r4.trans q4, r5.trans q5⟩
theorem Car.of_alk {A B : List SNd} (h : Alk A B) : Car A B := fun i d h1 h2 => by
  obtain ⟨e, q1, q2, q3, _, q5, q6⟩ := h.get h1
  exact ⟨e, q1, q2.trans h2, q3, q5, q6⟩
theorem Car.of_grow {lev : Int} {H H' : List SNd} {M M' : IMap} (h : Grow lev H M H' M') : Car H H' := fun _ d h1 h2 => ⟨d, h.get h1, h2, rfl, rfl, rfl⟩
theorem Car.snoc (H : List SNd) (e : SNd) : Car H (H ++ [e]) := fun i d h1 h2 => ⟨d, by rw [List.getElem?_append_left (List.getElem?_eq_some_iff.1 h1).1]; exact h1, h2, rfl, rfl, rfl⟩
theorem Car.lowAt (H : List SNd) (v : Nat) (lv : Int) : Car H (lowAt H v lv) := fun i d h1 h2 => by
  cases hv : H[v]? with
  | none => exact ⟨d, by unfold Go.Proofs.Yteolbbgnkbcfmaa.lowAt; rw [hv]; exact h1, h2, rfl, rfl, rfl⟩
  | some e =>
    rw [lowAt_some hv]
    by_cases hi : v = i
    · subst hi
      rw [h1] at hv; injection hv with hv; subst hv
      exact ⟨_, List.getElem?_set_self (List.getElem?_eq_some_iff.1 h1).1, h2, rfl, rfl, rfl⟩
    · exact ⟨d, by rw [List.getElem?_set_ne hi]; exact h1, h2, rfl, rfl, rfl⟩
theorem Car.refl (H : List SNd) : Car H H := fun _ d h1 h2 => ⟨d, h1, h2, rfl, rfl, rfl⟩
theorem Car.lows (lv : Int) : ∀ (vs : List Nat) (H : List SNd), Car H (lows H vs lv)
  | [], H => Car.refl H
  | v :: r, H => (Car.lowAt H v lv).trans (Car.lows lv r _)
/-- A link of a root that is none of these. -/
theorem Car.link {A H : List SNd} (h : Car A H) {v q : Nat} (hv : A.length ≤ v) : Car A (Sg.link H v q) := fun i d h1 h2 => by
  obtain ⟨d', q1, q2, q3⟩ := h i d h1 h2
  have hi := (List.getElem?_eq_some_iff.1 h1).1
  have h4 := Sg.link_get (p := v) (q := q) q1
  rw [if_neg (by omega)] at h4
  exact ⟨d', h4, q2, q3⟩
mutual
theorem Im.carry {H H' : List SNd} {M : IMap} (hc : Car H H') : ∀ {t : T} {p : Nat}, Im H M t p → Im H' M t p
  | .mk k n l, p, h => by
    obtain ⟨d, h1, h2, h3, h4, h5⟩ := h
    obtain ⟨d', q1, q2, q3, q4, q5⟩ := hc p d h1 h2
    exact ⟨d', q1, q2, q3.trans h3, h4, by rw [q3, q4, q5]; exact Ims.carry hc h5⟩
theorem Ims.carry {H H' : List SNd} {M : IMap} (hc : Car H H') : ∀ {l : List T} {xs : List Int}, Ims H M l xs → Ims H' M l xs
  | [], xs, h => h
  | t :: ts, xs, h => by
    obtain ⟨q, rest, h1, h2, h3⟩ := h
    exact ⟨q, rest, h1, Im.carry hc h2, Ims.carry hc h3⟩
end
theorem MapOk.carry {H H' : List SNd} {M : IMap} (hc : Car H H') (h : MapOk H M) : MapOk H' M := fun k p hk => by
  obtain ⟨d, h1, h2, h3⟩ := h k p hk
  obtain ⟨d', q1, q2, q3, _⟩ := hc p d h1 h2
  exact ⟨d', q1, q2, q3.trans h3⟩
/-- The level of one own root. -/
def LvAt (H : List SNd) (i : Nat) (lv : Int) : Prop := ∃ d : SNd, H[i]? = some d ∧ d.up = i ∧ d.c.kind = 6 ∧ d.c.level = lv
theorem LvAt.alk {A B : List SNd} (h : Alk A B) {i : Nat} {lv : Int} (k : LvAt A i lv) : LvAt B i lv := by
  obtain ⟨d, h1, h2, h3, h4⟩ := k
  obtain ⟨e, q1, q2, q3, q4, _⟩ := h.get h1
  exact ⟨e, q1, q2.trans h2, q3.trans h3, q4.trans h4⟩
theorem LvAt.snoc {H : List SNd} {i : Nat} {lv : Int} (k : LvAt H i lv) (e : SNd) : LvAt (H ++ [e]) i lv := by
  obtain ⟨d, h1, h2, h3, h4⟩ := k
  exact ⟨d, by rw [List.getElem?_append_left (List.getElem?_eq_some_iff.1 h1).1]; exact h1, h2, h3, h4⟩
theorem LvAt.lowAt {H : List SNd} {i : Nat} {lv : Int} (k : LvAt H i lv) (v : Nat) (c : Int) : LvAt (lowAt H v c) i (if v = i then min lv c else lv) := by
  obtain ⟨d, h1, h2, h3, h4⟩ := k
  cases hv : H[v]? with
  | none =>
    have hne : v ≠ i := fun e => by rw [e, h1] at hv; cases hv
    rw [if_neg hne]
    exact ⟨d, by unfold Go.Proofs.Yteolbbgnkbcfmaa.lowAt; rw [hv]; exact h1, h2, h3, h4⟩
  | some e =>
    rw [lowAt_some hv]
    by_cases hi : v = i
    · subst hi
      rw [h1] at hv; injection hv with hv; subst hv
      rw [if_pos rfl]
      exact ⟨_, List.getElem?_set_self (List.getElem?_eq_some_iff.1 h1).1, h2, h3, by show min d.c.level c = _; rw [h4]⟩
    · rw [if_neg hi]
      exact ⟨d, by rw [List.getElem?_set_ne hi]; exact h1, h2, h3, h4⟩
theorem LvAt.lows {i : Nat} (c : Int) : ∀ (vs : List Nat) {H : List SNd} {lv : Int}, LvAt H i lv → LvAt (lows H vs c) i (if i ∈ vs then min lv c else lv)
  | [], H, lv, k => by rw [if_neg (by simp)]; exact k
  | v :: r, H, lv, k => by
    have h1 := LvAt.lows c r (k.lowAt v c)
    have e : (if i ∈ r then min (if v = i then min lv c else lv) c else (if v = i then min lv c else lv)) = if i ∈ v :: r then min lv c else lv := by
      by_cases hv : v = i
      · subst hv; simp only [if_true, List.mem_cons, true_or]; split <;> omega
      · rw [if_neg hv]
        by_cases hr : i ∈ r
        · rw [if_pos hr, if_pos (List.mem_cons_of_mem _ hr)]
        · rw [if_neg hr, if_neg (fun h => by rcases List.mem_cons.1 h with h | h; exact hv h.symm; exact hr h)]
    rw [← e]; exact h1
theorem LvAt.link {H : List SNd} {i : Nat} {lv : Int} (k : LvAt H i lv) {v q : Nat} (hv : i ≠ v) : LvAt (Sg.link H v q) i lv := by
  obtain ⟨d, h1, h2, h3, h4⟩ := k
  have h5 := Sg.link_get (p := v) (q := q) h1
  rw [if_neg (by omega)] at h5
  exact ⟨d, h5, h2, h3, h4⟩
/-- Two states that carry one map have the same variables within. -/
theorem vars_len_same {H H' : List SNd} {M : IMap} {t : T} {p : Nat} (h : Im H M t p) (hok : MapOk H M) (hc : Car H H') (hocc : ∀ k q, M k = some q → occ t k) :
    (varsOf H' (trav H' (ren M t) p [])).length = (varsOf H (trav H (ren M t) p [])).length ∧ ∀ i, i ∈ varsOf H' (trav H' (ren M t) p []) ↔ i ∈ varsOf H (trav H (ren M t) p []) := by
  have h' := h.carry hc
  have hok' := hok.carry hc
  have hm : ∀ i, i ∈ varsOf H' (trav H' (ren M t) p []) ↔ i ∈ varsOf H (trav H (ren M t) p []) := fun i => by rw [vars_of_im h' hok' hocc, vars_of_im h hok hocc]
  refine ⟨?_, hm⟩
  refine List.Perm.length_eq ((List.perm_ext_iff_of_nodup ?_ ?_).2 hm)
  · exact List.Sublist.nodup List.filter_sublist (trav_nodup h' List.nodup_nil)
  · exact List.Sublist.nodup List.filter_sublist (trav_nodup h List.nodup_nil)
end Go.Proofs.Yteolbbgnkbcfmaa
namespace Go.Proofs.Yteolbbgnkbcfmaa
open Go Go.RowKit
open Tp (T)
open Sg (Of Rt Den Dens Alk Mkd trav travs rootOf kidsOf)
mutual
theorem occ_iff : ∀ (t : T) (i : Int), occ t i ↔ Tp.occ i t = true
  | .mk k n l, i => by simp only [occ, Tp.occ, Bool.or_eq_true, Bool.and_eq_true, decide_eq_true_eq, occs_iff l i]
theorem occs_iff : ∀ (l : List T) (i : Int), occs l i ↔ Tp.occs i l = true
  | [], i => by simp [occs, Tp.occs]
  | t :: ts, i => by simp only [occs, Tp.occs, Bool.or_eq_true, occ_iff t i, occs_iff ts i]
end
mutual
theorem Im.held {H : List SNd} {M : IMap} : ∀ {t : T} {p : Nat} {i : Int}, Im H M t p → occ t i → ∃ q, M i = some q
  | .mk k n l, p, i, h, ho => by
    obtain ⟨d, _, _, _, h4, h5⟩ := h
    rcases ho with ⟨h1, rfl⟩ | ho
    · exact ⟨p, h4 h1⟩
    · exact Ims.held h5 ho
theorem Ims.held {H : List SNd} {M : IMap} : ∀ {l : List T} {xs : List Int} {i : Int}, Ims H M l xs → occs l i → ∃ q, M i = some q
  | [], xs, i, _, ho => ho.elim
  | t :: ts, xs, i, h, ho => by
    obtain ⟨p, rest, rfl, h2, h3⟩ := h
    rcases ho with ho | ho
    · exact Im.held h2 ho
    · exact Ims.held h3 ho
end
/-- As many variables within a node that was made as the type has. -/
theorem vars_many {lev : Int} {H0 H : List SNd} {M : IMap} (hg : Grow lev H0 (fun _ => none) H M) {t : T} {p : Nat} (h : Im H M t p) (hocc : ∀ k q, M k = some q → occ t k) :
    (varsOf H (trav H (ren M t) p [])).length = (Tp.vars t []).length := by
  have hok : MapOk H M := hg.ok (fun k p h => by cases h)
  have hinj : ∀ k k' p, M k = some p → M k' = some p → k = k' := fun k k' p h1 h2 => by
    rcases hg.new k p h1 with h3 | ⟨h3, _⟩
    · cases h3
    · exact hg.one k k' p h1 h2 h3 (fun j q h => by cases h)
  have hmem : ∀ k, k ∈ Tp.vars t [] ↔ occ t k := fun k => by
    rw [Tp.mem_vars, occ_iff]; simp
  have hp : (varsOf H (trav H (ren M t) p [])).Perm ((Tp.vars t []).map fun k => (M k).getD 0) := by
    refine (List.perm_ext_iff_of_nodup ?_ ?_).2 fun i => ?_
    · exact List.Sublist.nodup List.filter_sublist (trav_nodup h List.nodup_nil)
    · unfold List.Nodup
      rw [List.pairwise_map]
      refine List.Pairwise.imp_of_mem ?_ (Tp.vars_nodup t [] List.nodup_nil)
      intro a b ha hb hne e
      obtain ⟨q, hq⟩ := h.held ((hmem a).1 ha)
      obtain ⟨q', hq'⟩ := h.held ((hmem b).1 hb)
      rw [hq, hq'] at e
      have e2 : q = q' := e
      subst e2
      exact hne (hinj a b q hq hq')
    · rw [vars_of_im h hok hocc, List.mem_map]
      constructor
      · rintro ⟨k, hk⟩
        exact ⟨k, (hmem k).2 (hocc k i hk), by rw [hk]; rfl⟩
      · rintro ⟨k, hk, e⟩
        obtain ⟨q, hq⟩ := h.held ((hmem k).1 hk)
        rw [hq] at e
        exact ⟨k, by rw [hq, ← e]; rfl⟩
  have := hp.length_eq
  rwa [List.length_map] at this
/-- The nodes whose roots lie in a set stay. -/
def Keeps (H H' : List SNd) (Z : List Nat) : Prop := ∀ (i : Nat) (d : SNd), H[i]? = some d → d.up ∈ Z → ∃ e : SNd, H'[i]? = some e ∧ e.up = d.up ∧ e.c.kind = d.c.kind ∧ e.c.a = d.c.a ∧ e.c.b = d.c.b
mutual
/-- What lies within a closed set whose nodes stay goes on to stand for the same. -/
theorem Den.keep {H H' : List SNd} {Z : List Nat} (hZ : Clo H Z) (hk : Keeps H H' Z) : ∀ {t : T} {p : Nat}, Den H t p → rootOf H p ∈ Z → Den H' t p
  | .mk k m l, p, h, hp => by
    obtain ⟨d, r, hd, hr, hu, h1, h2, h3⟩ := h
    have hp' : d.up ∈ Z := by unfold rootOf at hp; rw [hd] at hp; exact hp
    obtain ⟨d', a1, a2, a3, _⟩ := hk p d hd hp'
    obtain ⟨r', b1, b2, b3, b4, b5⟩ := hk d.up r hr (by rw [hu]; exact hp')
    refine ⟨d', r', a1, by rw [a2]; exact b1, by rw [b2, hu, a2], by rw [b3]; exact h1, by rw [a2]; exact h2, ?_⟩
    rw [b3, b4, b5]
    exact Dens.keep hZ hk h3 (fun x hx => hZ d.up hp' x (by unfold kidsOf; rw [hr]; exact hx))
theorem Dens.keep {H H' : List SNd} {Z : List Nat} (hZ : Clo H Z) (hk : Keeps H H' Z) : ∀ {l : List T} {xs : List Int}, Dens H l xs → (∀ x ∈ xs, rootOf H x.toNat ∈ Z) → Dens H' l xs
  | [], xs, h, _ => h
  | t :: ts, xs, h, hx => by
    obtain ⟨q, rest, rfl, h2, h3⟩ := h
    refine ⟨q, rest, rfl, Den.keep hZ hk h2 ?_, Dens.keep hZ hk h3 (fun x h => hx x (List.mem_cons_of_mem _ h))⟩
    have := hx (q : Int) (by simp)
    rwa [Int.toNat_natCast] at this
end
theorem Den.of_root {H : List SNd} {t : T} {p q : Nat} (h : Den H t p) {d : SNd} (hd : H[q]? = some d) (e : d.up = rootOf H p) : Den H t q := by
  cases t with
  | mk k m l =>
    obtain ⟨d0, r, h1, h2, h3, h4, h5, h6⟩ := h
    have e2 : d.up = d0.up := by rw [e]; unfold rootOf; rw [h1]
    exact ⟨d, r, hd, by rw [e2]; exact h2, by rw [e2]; exact h3, h4, by rw [e2]; exact h5, h6⟩
/-- A link leaves what lies apart from the linked one. -/
theorem Den.linked {H H4 : List SNd} {Z vs : List Nat} {lv : Int} {v q : Nat} (ha : Alk H H4) (hZ : Clo H Z) (hv : ¬ v ∈ Z) {t : T} {p : Nat} (h : Den H t p) (hp : rootOf H p ∈ Z) : Den (Sg.link (lows H4 vs lv) v q) t p :=
  Den.keep hZ (fun i d hd hu => by
    obtain ⟨e, h1, h2, h3, h4, h5, h6⟩ := ha.get hd
    obtain ⟨e', g1, g2, g3, g4, g5, _⟩ := lows_get vs lv h1
    have h9 := Sg.link_get (p := v) (q := q) g1
    have hne : e'.up ≠ v := fun h => hv (by rw [← h, g2, h2]; exact hu)
    rw [if_neg hne] at h9
    exact ⟨e', h9, g2.trans h2, g3.trans h3, g4.trans h5, g5.trans h6⟩) h hp
theorem kidsOf_alk {A B : List SNd} (h : Alk A B) (r : Nat) : kidsOf A r = kidsOf B r := by
  unfold kidsOf
  cases hA : A[r]? with
  | none =>
    have : B[r]? = none := by rw [List.getElem?_eq_none_iff] at hA ⊢; rw [← h.len]; exact hA
    rw [this]
  | some d =>
    obtain ⟨e, h1, _, h3, _, h5, h6⟩ := h.get hA
    rw [h1]
    show kidL d.c.kind d.c.a d.c.b = kidL e.c.kind e.c.a e.c.b
    rw [h3, h5, h6]
mutual
theorem trav_alk {A B : List SNd} (h : Alk A B) : ∀ (t : T) (p : Nat) (Y : List Nat), trav A t p Y = trav B t p Y
  | .mk k n l, p, Y => by
    by_cases hy : rootOf A p ∈ Y
    · rw [Sg.trav_in hy, Sg.trav_in (by rw [← h.root]; exact hy)]
    · rw [Sg.trav_out hy, Sg.trav_out (by rw [← h.root]; exact hy), h.root, kidsOf_alk h, travs_alk h]
theorem travs_alk {A B : List SNd} (h : Alk A B) : ∀ (l : List T) (xs : List Int) (Y : List Nat), travs A l xs Y = travs B l xs Y
  | [], _, Y => by simp only [travs]
  | _ :: _, [], Y => by simp only [travs]
  | t :: ts, x :: xs, Y => by simp only [travs]; rw [trav_alk h t, travs_alk h ts]
end
theorem isV_of {H : List SNd} {i : Nat} {d : SNd} (h : H[i]? = some d) : isV H i = decide (d.c.kind = 6) := by unfold isV; rw [h]
theorem lows_met {H : List SNd} {K : Int} (h : ∀ d ∈ H, d.c.met ≤ K) (vs : List Nat) (c : Int) : ∀ d ∈ lows H vs c, d.c.met ≤ K := fun d hd => by
  obtain ⟨i, hi⟩ := List.mem_iff_getElem?.1 hd
  have hl := (List.getElem?_eq_some_iff.1 hi).1
  rw [lows_len] at hl
  obtain ⟨d', q1, _, _, _, _, q6, _⟩ := lows_get vs c (List.getElem?_eq_getElem hl)
  rw [hi] at q1; injection q1 with q1
  rw [q1, q6]; exact h _ (List.getElem_mem hl)
theorem NatsAt.keep {w w' : World} {l : List Nat} {a : Option Addr} (h : NatsAt w l a) (hs : ∀ b o, a = some ⟨b, o, none⟩ → w'.heap[b]? = w.heap[b]?) : NatsAt w' l a := fun i hi => by
  obtain ⟨b, rfl, hc⟩ := h i hi
  exact ⟨b, rfl, (World.cell?_of_block (a := ⟨b, i, none⟩) (hs b 0 rfl)).trans hc⟩
theorem lv_five : LvOk (lvs 5) := fun i hi => by
  match i, hi with
  | 0, _ => exact ⟨_, rfl, rfl, rfl⟩
  | 1, _ => exact ⟨_, rfl, rfl, rfl⟩
  | 2, _ => exact ⟨_, rfl, rfl, rfl⟩
  | 3, _ => exact ⟨_, rfl, rfl, rfl⟩
  | 4, _ => exact ⟨_, rfl, rfl, rfl⟩
theorem vars_kind {t : T} (h : (Tp.vars t []).length = 0) : t.kind ≠ 6 := by
  intro h6
  cases t with
  | mk k n l =>
    have h7 : k = 6 := h6
    have hm : n ∈ Tp.vars (.mk k n l) [] := (Tp.mem_vars _ _ _).2 (.inr (by simp [Tp.occ, h7]))
    have h8 : Tp.vars (.mk k n l) [] = [] := List.length_eq_zero_iff.1 h
    rw [h8] at hm; cases hm
/-- What a link leaves of a node that is its own root. -/
theorem link_keep {H H4 : List SNd} (ha : Alk H H4) (vs : List Nat) (lv : Int) {v q i : Nat} {d : SNd} (hd : H[i]? = some d) (hne : d.up ≠ v) : ∃ e : SNd, (Sg.link (lows H4 vs lv) v q)[i]? = some e ∧ e.up = d.up ∧ e.c.kind = d.c.kind := by
  obtain ⟨e, h1, h2, h3, h4, h5, h6⟩ := ha.get hd
  obtain ⟨e', g1, g2, g3, g4, g5, _⟩ := lows_get vs lv h1
  have h9 := Sg.link_get (p := v) (q := q) g1
  rw [if_neg (by rw [g2, h2]; exact hne)] at h9
  exact ⟨e', h9, g2.trans h2, g3.trans h3⟩
theorem link_turn {H H4 : List SNd} (ha : Alk H H4) (vs : List Nat) (lv : Int) {v q i : Nat} {d : SNd} (hd : H[i]? = some d) (he : d.up = v) : ∃ e : SNd, (Sg.link (lows H4 vs lv) v q)[i]? = some e ∧ e.up = q := by
  obtain ⟨e, h1, h2, h3, h4, h5, h6⟩ := ha.get hd
  obtain ⟨e', g1, g2, g3, g4, g5, _⟩ := lows_get vs lv h1
  have h9 := Sg.link_get (p := v) (q := q) g1
  rw [if_pos (by rw [g2, h2]; exact he)] at h9
  exact ⟨_, h9, rfl⟩
theorem kinds_link {H H4 : List SNd} (ha : Alk H H4) (vs : List Nat) (lv : Int) (v q : Nat) (hk : ∀ d ∈ H, I64 d.c.kind) : ∀ d ∈ Sg.link (lows H4 vs lv) v q, I64 d.c.kind := fun d hd => by
  obtain ⟨i, hi⟩ := List.mem_iff_getElem?.1 hd
  have hl := (List.getElem?_eq_some_iff.1 hi).1
  rw [Sg.link_len, lows_len, ← ha.len] at hl
  have h0 := List.getElem?_eq_getElem hl
  by_cases he : (H[i]).up = v
  · obtain ⟨e, h1, h2, h3, h4, h5, h6⟩ := ha.get h0
    obtain ⟨e', g1, g2, g3, g4, g5, _⟩ := lows_get vs lv h1
    have h9 := Sg.link_get (p := v) (q := q) g1
    rw [if_pos (by rw [g2, h2]; exact he), hi] at h9
    injection h9 with h9
    rw [h9]; show I64 e'.c.kind; rw [g3, h3]; exact hk _ (List.getElem_mem hl)
  · obtain ⟨e, h1, _, h3⟩ := link_keep ha vs lv (q := q) h0 he
    rw [hi] at h1; injection h1 with h1
    rw [h1, h3]; exact hk _ (List.getElem_mem hl)
theorem Bds.len {L C : Int} {H H' : List SNd} (h : Bds L C H) (e : H'.length = H.length) : Bds L C H' := ⟨h.c0, h.cl, h.l, by rw [e]; exact h.n⟩
end Go.Proofs.Yteolbbgnkbcfmaa

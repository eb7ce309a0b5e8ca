/- What links to static nodes and new nodes leave, plainly. -/
import Derived.Test.YteolbbgnkbcfmaaSvF
import Derived.Test.YteolbbgnkbcfmaaSuA
namespace Go.Proofs.Yteolbbgnkbcfmaa
open Go Go.RowKit
open Tp (T)
open Sg (Of Rt Den Dens Alk Mkd trav travs rootOf kidsOf)
mutual
/-- A type in a variable's place. -/
def sbv (v : Nat) (u : T) : T → T
  | .mk k n l => if k = 6 ∧ n = (v : Int) ∧ l.isEmpty = true then u else .mk k n (sbvs v u l)
def sbvs (v : Nat) (u : T) : List T → List T
  | [] => []
  | t :: r => sbv v u t :: sbvs v u r
end
mutual
theorem without_sbv {v : Nat} {u : T} (hu : Tp.without 5 u = true) : ∀ t : T, Tp.without 5 (sbv v u t) = Tp.without 5 t
  | .mk k n l => by
    rw [sbv]
    split
    · rename_i h
      obtain ⟨h1, h2, h3⟩ := h
      have : l = [] := by simpa using h3
      subst this
      rw [hu, h1]; rfl
    · simp only [Tp.without, withouts_sbv hu l]
theorem withouts_sbv {v : Nat} {u : T} (hu : Tp.without 5 u = true) : ∀ l : List T, Tp.withouts 5 (sbvs v u l) = Tp.withouts 5 l
  | [] => rfl
  | t :: r => by simp only [sbvs, Tp.withouts, without_sbv hu t, withouts_sbv hu r]
end
/-- The store behind a link of v to z. -/
def lnk (H1 : List SNd) (vs : List Nat) (lv : Int) (v z : Nat) : List SNd := Sg.link (lows H1 vs lv) v z
theorem lnk_len (H1 : List SNd) (vs : List Nat) (lv : Int) (v z : Nat) : (lnk H1 vs lv v z).length = H1.length := by unfold lnk; rw [Sg.link_len, lows_len]
theorem lnk_get {H H1 : List SNd} (ha : Alk H H1) (vs : List Nat) (lv : Int) (v z : Nat) {i : Nat} {d : SNd} (hd : H[i]? = some d) : ∃ e : SNd, (lnk H1 vs lv v z)[i]? = some e ∧ e.up = (if d.up = v then z else d.up) ∧ e.c.kind = d.c.kind ∧ e.c.a = d.c.a ∧ e.c.b = d.c.b := by
  obtain ⟨e, h1, h2, h3, h4, h5, h6⟩ := ha.get hd
  obtain ⟨e', g1, g2, g3, g4, g5, _⟩ := lows_get vs lv h1
  have h9 := Sg.link_get (p := v) (q := z) g1
  refine ⟨_, h9, ?_, ?_, ?_, ?_⟩
  · by_cases h : e'.up = v
    · rw [if_pos h, if_pos (by rw [← h2, ← g2]; exact h)]
    · rw [if_neg h, if_neg (by rw [← h2, ← g2]; exact h)]; exact g2.trans h2
  all_goals split <;> first | exact g3.trans h3 | exact g4.trans h5 | exact g5.trans h6
section
variable {H H1 : List SNd} {vs : List Nat} {lv : Int} {v z : Nat} {u : T} {dv : SNd}
mutual
/-- Behind a link of a variable each node stands for its type with the other's in the variable's place. -/
theorem Den.subst (ha : Alk H H1) (hv : H[v]? = some dv) (hvu : dv.up = v) (hv6 : dv.c.kind = 6) (hz : Den (lnk H1 vs lv v z) u z) (hzr : rootOf (lnk H1 vs lv v z) z = z) : ∀ {t : T} {p : Nat}, Den H t p → Den (lnk H1 vs lv v z) (sbv v u t) p
  | .mk k n l, p, h => by
    obtain ⟨d, r, hd, hr, hur, hk, hn, hds⟩ := h
    obtain ⟨d', e1, e2, e3, e4, e5⟩ := lnk_get ha vs lv v z hd
    obtain ⟨r', f1, f2, f3, f4, f5⟩ := lnk_get ha vs lv v z hr
    by_cases hdv : d.up = v
    · rw [hdv, hv] at hr
      injection hr with hr
      subst hr
      have hk6 : k = 6 := hk.symm.trans hv6
      have hl : l = [] := by
        have h9 := hds.len
        rw [kidL_len, hv6] at h9
        exact List.eq_nil_of_length_eq_zero h9
      subst hl
      rw [sbv, if_pos ⟨hk6, by rw [hn, if_pos hk6, hdv], rfl⟩]
      rw [if_pos hdv] at e2
      exact Den.of_root hz e1 (by rw [hzr]; exact e2)
    · rw [sbv, if_neg (fun hh => hdv (by have h9 := hh.2.1; rw [hn, if_pos hh.1] at h9; omega))]
      rw [if_neg hdv] at e2
      rw [if_neg (by rw [hur]; exact hdv)] at f2
      refine ⟨d', r', e1, by rw [e2]; exact f1, by rw [f2, e2]; exact hur, f3.trans hk, by rw [e2]; exact hn, ?_⟩
      rw [f3, f4, f5]
      exact Dens.subst ha hv hvu hv6 hz hzr hds
theorem Dens.subst (ha : Alk H H1) (hv : H[v]? = some dv) (hvu : dv.up = v) (hv6 : dv.c.kind = 6) (hz : Den (lnk H1 vs lv v z) u z) (hzr : rootOf (lnk H1 vs lv v z) z = z) : ∀ {l : List T} {xs : List Int}, Dens H l xs → Dens (lnk H1 vs lv v z) (sbvs v u l) xs
  | [], xs, h => h
  | t :: ts, xs, h => by
    obtain ⟨q, rest, rfl, h2, h3⟩ := h
    exact ⟨q, rest, rfl, Den.subst ha hv hvu hv6 hz hzr h2, Dens.subst ha hv hvu hv6 hz hzr h3⟩
end
end
mutual
theorem trav_cloD {H : List SNd} : ∀ {t : T} {p : Nat} {Y : List Nat}, Den H t p → Clo H Y → Clo H (trav H t p Y)
  | .mk k n l, p, Y, h, hY => by
    by_cases hy : rootOf H p ∈ Y
    · rw [Sg.trav_in hy]; exact hY
    · rw [Sg.trav_out hy]
      obtain ⟨d, r, hd, hr, hur, hk, hn, hds⟩ := h
      have hro : rootOf H p = d.up := by unfold Sg.rootOf; rw [hd]
      have hki : kidsOf H (rootOf H p) = kidL r.c.kind r.c.a r.c.b := by rw [hro]; unfold Sg.kidsOf; rw [hr]
      rw [hki]
      simp only [Tp.T.kids]
      intro i hi x hx
      rcases List.mem_append.1 hi with hi | hi
      · exact List.mem_append_left _ (travs_cloD hds hY i hi x hx)
      · rw [List.mem_singleton.1 hi, hki] at hx
        exact List.mem_append_left _ (travs_mem _ _ _ hds.len x hx)
theorem travs_cloD {H : List SNd} : ∀ {l : List T} {xs : List Int} {Y : List Nat}, Dens H l xs → Clo H Y → Clo H (travs H l xs Y)
  | [], xs, Y, h, hY => by simp only [travs]; exact hY
  | t :: ts, xs, Y, h, hY => by
    obtain ⟨q, rest, rfl, h2, h3⟩ := h
    simp only [travs, Int.toNat_natCast]
    exact travs_cloD h3 (trav_cloD h2 hY)
end
mutual
/-- A closed set that holds a node holds all that is within it. -/
theorem trav_sub {H : List SNd} {Z : List Nat} : ∀ {t : T} {p : Nat} {Y : List Nat}, Den H t p → Clo H Z → (∀ i ∈ Y, i ∈ Z) → rootOf H p ∈ Z → ∀ i ∈ trav H t p Y, i ∈ Z
  | .mk k n l, p, Y, h, hZ, hY, hp, i, hi => by
    by_cases hy : rootOf H p ∈ Y
    · rw [Sg.trav_in hy] at hi; exact hY i hi
    · rw [Sg.trav_out hy] at hi
      obtain ⟨d, r, hd, hr, hur, hk, hn, hds⟩ := h
      have hro : rootOf H p = d.up := by unfold Sg.rootOf; rw [hd]
      have hki : kidsOf H (rootOf H p) = kidL r.c.kind r.c.a r.c.b := by rw [hro]; unfold Sg.kidsOf; rw [hr]
      rcases List.mem_append.1 hi with hi | hi
      · rw [hki] at hi
        exact travs_sub hds hZ hY (fun x hx => hZ _ hp x (by rw [hki]; exact hx)) i hi
      · rw [List.mem_singleton.1 hi]; exact hp
theorem travs_sub {H : List SNd} {Z : List Nat} : ∀ {l : List T} {xs : List Int} {Y : List Nat}, Dens H l xs → Clo H Z → (∀ i ∈ Y, i ∈ Z) → (∀ x ∈ xs, rootOf H x.toNat ∈ Z) → ∀ i ∈ travs H l xs Y, i ∈ Z
  | [], xs, Y, h, hZ, hY, hx, i, hi => by simp only [travs] at hi; exact hY i hi
  | t :: ts, xs, Y, h, hZ, hY, hx, i, hi => by
    obtain ⟨q, rest, rfl, h2, h3⟩ := h
    simp only [travs, Int.toNat_natCast] at hi
    exact travs_sub h3 hZ (trav_sub h2 hZ hY (by have := hx (q : Int) (by simp); rwa [Int.toNat_natCast] at this)) (fun x h => hx x (List.mem_cons_of_mem _ h)) i hi
end
/-- The linked one's type. -/
theorem Den.target {H H1 : List SNd} {vs : List Nat} {lv : Int} {v z : Nat} {u : T} (ha : Alk H H1) (hz : Den H u z) (hv : ¬ v ∈ trav H u z []) : Den (lnk H1 vs lv v z) u z :=
  Den.linked ha (trav_cloD hz (fun i hi => by cases hi)) hv hz (Sg.trav_mem u z [])
theorem root_target {H H1 : List SNd} {vs : List Nat} {lv : Int} {v z : Nat} {d : SNd} (ha : Alk H H1) (hd : H[z]? = some d) (hu : d.up = z) (hv : z ≠ v) : rootOf (lnk H1 vs lv v z) z = z := by
  obtain ⟨e, h1, h2, _⟩ := lnk_get ha vs lv v z hd
  unfold Sg.rootOf; rw [h1]; dsimp only; rw [h2, hu, if_neg hv]
mutual
/-- More nodes turn nothing. -/
theorem Den.more {H : List SNd} (N : List SNd) : ∀ {t : T} {p : Nat}, Den H t p → Den (H ++ N) t p
  | .mk k n l, p, h => by
    obtain ⟨d, r, hd, hr, hur, hk, hn, hds⟩ := h
    exact ⟨d, r, by rw [List.getElem?_append_left (List.getElem?_eq_some_iff.1 hd).1]; exact hd, by rw [List.getElem?_append_left (List.getElem?_eq_some_iff.1 hr).1]; exact hr, hur, hk, hn, Dens.more N hds⟩
theorem Dens.more {H : List SNd} (N : List SNd) : ∀ {l : List T} {xs : List Int}, Dens H l xs → Dens (H ++ N) l xs
  | [], xs, h => h
  | t :: ts, xs, h => by
    obtain ⟨q, rest, h1, h2, h3⟩ := h
    exact ⟨q, rest, h1, Den.more N h2, Dens.more N h3⟩
end
theorem SOk.more {H : List SNd} {S : IMap} {ns : Nat} (h : SOk H S ns) (N : List SNd) : SOk (H ++ N) S ns :=
  ⟨fun i e he => by obtain ⟨r, t, q1, q2, q4⟩ := h.val i e he; exact ⟨r, t, q1, Den.more N q2, q4⟩, by
    obtain ⟨ks, h1, h2, h3⟩ := h.cnt
    exact ⟨ks, h1, h2, fun k hk => ⟨by rw [List.length_append]; have := (h3 k hk).1; omega, (h3 k hk).2⟩⟩⟩
/-- What is known stays true behind a link to a static node. -/
theorem SOk.lnk {H H1 : List SNd} {S : IMap} {ns : Nat} (h : SOk H S ns) {vs : List Nat} {lv : Int} {v z : Nat} {u : T} {dv dz : SNd} (ha : Alk H H1) (hv : H[v]? = some dv) (hvu : dv.up = v) (hv6 : dv.c.kind = 6) (hz : Den H u z) (hzd : H[z]? = some dz) (hzu : dz.up = z) (hvz : ¬ v ∈ trav H u z []) (hs : Tp.without 5 u = true) : SOk (lnk H1 vs lv v z) S ns := by
  have hne : z ≠ v := fun e => hvz (by have h9 := Sg.trav_mem (H := H) u z []; rw [show rootOf H z = z from by unfold Sg.rootOf; rw [hzd]; exact hzu] at h9; rw [← e]; exact h9)
  have hz' := Den.target (vs := vs) (lv := lv) ha hz hvz
  have hzr := root_target (vs := vs) (lv := lv) ha hzd hzu hne
  refine ⟨fun i e he => ?_, ?_⟩
  · obtain ⟨r, t, q1, q2, q4⟩ := h.val i e he
    exact ⟨r, sbv v u t, q1, Den.subst ha hv hvu hv6 hz' hzr q2, by rw [without_sbv hs]; exact q4⟩
  · obtain ⟨ks, h1, h2, h3⟩ := h.cnt
    exact ⟨ks, h1, h2, fun k hk => ⟨by rw [lnk_len, ← ha.len]; exact (h3 k hk).1, (h3 k hk).2⟩⟩
theorem likeH_pre (H : List SNd) (k lev : Int) : ∃ N, likeH H k lev = H ++ N := by
  have key : ∀ j, ∃ N, vns H lev j = H ++ N := fun j => by
    induction j with
    | zero => exact ⟨[], by simp [vns]⟩
    | succ j ih => obtain ⟨N, e⟩ := ih; exact ⟨_, by rw [vns, e, List.append_assoc]⟩
  obtain ⟨N, e⟩ := key (ar k)
  exact ⟨_, by unfold likeH; rw [e, List.append_assoc]⟩
theorem likeH_len (H : List SNd) (k lev : Int) : (likeH H k lev).length = H.length + ar k + 1 := by unfold likeH; rw [List.length_append, vns_len]; rfl
/-- The new node's type. -/
def shell (k : Int) (N : Nat) : T := .mk k 0 ((List.range (ar k)).map fun i => .mk 6 ((N + i : Nat) : Int) [])
theorem vns_at (H : List SNd) (lev : Int) : ∀ (j i : Nat), i < j → (vns H lev j)[H.length + i]? = some (vnd lev (H.length + i))
  | 0, _, h => by omega
  | j + 1, i, h => by
    rw [vns]
    by_cases e : i < j
    · rw [List.getElem?_append_left (by rw [vns_len]; omega)]; exact vns_at H lev j i e
    · obtain rfl : i = j := by omega
      rw [List.getElem?_append_right (by rw [vns_len]; omega), vns_len, Nat.sub_self]; rfl
theorem likeH_var {H : List SNd} {k lev : Int} {i : Nat} (h : i < ar k) : (likeH H k lev)[H.length + i]? = some (vnd lev (H.length + i)) := by
  unfold likeH
  rw [List.getElem?_append_left (by rw [vns_len]; omega)]
  exact vns_at H lev _ i h
theorem likeH_node (H : List SNd) (k lev : Int) : (likeH H k lev)[H.length + ar k]? = some ⟨⟨k, 0, (H.length : Int), if ar k = 2 then ((H.length + 1 : Nat) : Int) else 0, 0⟩, H.length + ar k⟩ := by
  unfold likeH
  rw [List.getElem?_append_right (by rw [vns_len]; omega), vns_len, Nat.sub_self]; rfl
theorem ar_six : ar 6 = 0 := by decide
/-- The new node stands for its type. -/
theorem likeH_den {H : List SNd} {k lev : Int} (hk : 0 < ar k) : Den (likeH H k lev) (shell k H.length) (H.length + ar k) := by
  have h6 : k ≠ 6 := fun e => by rw [e, ar_six] at hk; omega
  have hvar : ∀ i, i < ar k → Den (likeH H k lev) (.mk 6 ((H.length + i : Nat) : Int) []) (H.length + i) := fun i hi =>
    ⟨_, _, likeH_var hi, likeH_var hi, rfl, rfl, by rw [if_pos rfl]; rfl, rfl⟩
  refine ⟨_, _, likeH_node H k lev, likeH_node H k lev, rfl, rfl, by rw [if_neg h6], ?_⟩
  have h2 := ar_le k
  have h12 : ar k = 1 ∨ ar k = 2 := by omega
  rcases h12 with e | e
  · unfold kidL
    rw [e]
    exact ⟨H.length, [], rfl, hvar 0 (by omega), rfl⟩
  · unfold kidL
    rw [e]
    exact ⟨H.length, [((H.length + 1 : Nat) : Int)], rfl, hvar 0 (by omega), H.length + 1, [], rfl, hvar 1 (by omega), rfl⟩
theorem shell_static {k : Int} (h5 : k ≠ 5) (N : Nat) : Tp.without 5 (shell k N) = true := by
  have h2 := ar_le k
  have h12 : ar k = 0 ∨ ar k = 1 ∨ ar k = 2 := by omega
  unfold shell
  rcases h12 with e | e | e <;> rw [e] <;> simp [Tp.without, Tp.withouts, List.range_succ, h5]
/-- What lies within the new node is new. -/
theorem likeH_in {H : List SNd} {k lev : Int} (hk : 0 < ar k) {i : Nat} (hi : i ∈ trav (likeH H k lev) (shell k H.length) (H.length + ar k) []) : H.length ≤ i := by
  have hro : ∀ j, j < ar k → rootOf (likeH H k lev) (H.length + j) = H.length + j := fun j hj => by unfold Sg.rootOf; rw [likeH_var hj]; rfl
  have hrm : rootOf (likeH H k lev) (H.length + ar k) = H.length + ar k := by unfold Sg.rootOf; rw [likeH_node]
  have hcl : Clo (likeH H k lev) ((List.range (ar k + 1)).map fun j => H.length + j) := fun i hi x hx => by
    obtain ⟨j, hj, rfl⟩ := List.mem_map.1 hi
    have hj := List.mem_range.1 hj
    by_cases hja : j < ar k
    · unfold Sg.kidsOf at hx
      rw [likeH_var hja] at hx
      have hx : x ∈ ([] : List Int) := hx
      cases hx
    · obtain rfl : j = ar k := by omega
      unfold Sg.kidsOf at hx
      rw [likeH_node] at hx
      have h2 := ar_le k
      have h12 : ar k = 1 ∨ ar k = 2 := by omega
      rcases h12 with e | e
      · unfold kidL at hx
        simp only [e, List.take_succ_cons, List.take_zero, List.mem_singleton] at hx
        rw [hx, Int.toNat_natCast]
        have := hro 0 (by omega)
        rw [Nat.add_zero] at this
        rw [this]
        exact List.mem_map.2 ⟨0, List.mem_range.2 (by omega), rfl⟩
      · unfold kidL at hx
        simp only [e, List.take_succ_cons, List.take_zero, List.mem_cons, List.not_mem_nil, or_false, if_true] at hx
        rcases hx with hx | hx
        · rw [hx, Int.toNat_natCast]
          have := hro 0 (by omega)
          rw [Nat.add_zero] at this
          rw [this]
          exact List.mem_map.2 ⟨0, List.mem_range.2 (by omega), rfl⟩
        · rw [hx, Int.toNat_natCast, hro 1 (by omega)]
          exact List.mem_map.2 ⟨1, List.mem_range.2 (by omega), rfl⟩
  have hsub := trav_sub (likeH_den (lev := lev) hk) hcl (fun i hi => by cases hi) (by rw [hrm]; exact List.mem_map.2 ⟨ar k, List.mem_range.2 (by omega), rfl⟩) i hi
  obtain ⟨j, _, rfl⟩ := List.mem_map.1 hsub
  omega
end Go.Proofs.Yteolbbgnkbcfmaa

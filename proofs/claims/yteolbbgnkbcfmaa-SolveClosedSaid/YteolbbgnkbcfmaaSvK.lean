/- solve.Agree: the walk, by its steps. -/
import Derived.Test.YteolbbgnkbcfmaaSvJ
import Derived.Deep.CutBlock
import Derived.WalkMore
namespace Go.Proofs.Yteolbbgnkbcfmaa
open Go Go.RowKit Go.Shelf
open Tp (T)
open Sg (Of Rt Den Dens Alk Mkd trav travs rootOf kidsOf)
mutual
/-- Nodes that stay but for level and mark. -/
theorem Den.sameC {H H' : List SNd} (hs : ∀ (i : Nat) (d : SNd), H[i]? = some d → ∃ e : SNd, H'[i]? = some e ∧ e.up = d.up ∧ e.c.kind = d.c.kind ∧ e.c.a = d.c.a ∧ e.c.b = d.c.b) : ∀ {t : T} {p : Nat}, Den H t p → Den H' t p
  | .mk k n l, p, h => by
    obtain ⟨d, r, hd, hr, hur, hk, hn, hds⟩ := h
    obtain ⟨d', a1, a2, a3, a4, a5⟩ := hs p d hd
    obtain ⟨r', b1, b2, b3, b4, b5⟩ := hs d.up r hr
    refine ⟨d', r', a1, by rw [a2]; exact b1, by rw [b2, a2]; exact hur, b3.trans hk, by rw [a2]; exact hn, ?_⟩
    rw [b3, b4, b5]; exact Dens.sameC hs hds
theorem Dens.sameC {H H' : List SNd} (hs : ∀ (i : Nat) (d : SNd), H[i]? = some d → ∃ e : SNd, H'[i]? = some e ∧ e.up = d.up ∧ e.c.kind = d.c.kind ∧ e.c.a = d.c.a ∧ e.c.b = d.c.b) : ∀ {l : List T} {xs : List Int}, Dens H l xs → Dens H' l xs
  | [], xs, h => h
  | t :: ts, xs, h => by
    obtain ⟨q, rest, h1, h2, h3⟩ := h
    exact ⟨q, rest, h1, Den.sameC hs h2, Dens.sameC hs h3⟩
end
theorem SOk.lows {H : List SNd} {S : IMap} {ns : Nat} (h : SOk H S ns) (vs : List Nat) (lv : Int) : SOk (lows H vs lv) S ns := by
  refine ⟨fun i e he => ?_, ?_⟩
  · obtain ⟨r, t, q1, q2, q4⟩ := h.val i e he
    exact ⟨r, t, q1, Den.sameC (fun i d hi => by obtain ⟨e', g1, g2, g3, g4, g5, _⟩ := lows_get vs lv hi; exact ⟨e', g1, g2, g3, g4, g5⟩) q2, q4⟩
  · obtain ⟨ks, h1, h2, h3⟩ := h.cnt
    exact ⟨ks, h1, h2, fun k hk => ⟨by rw [lows_len]; exact (h3 k hk).1, (h3 k hk).2⟩⟩
theorem psh_H (H : List SNd) (Q : List Pr) (D : List (Nat × Nat)) (x y : Nat) (fr : Bool) : (psh H Q D x y fr).H = H := by unfold psh; split <;> rfl
/-- What pushKids leaves of the record. -/
theorem psh_wk {Bs b s : Nat} {oa : Option Addr} {oc mb mc ns : Nat} {w : World} {Q : List Pr} {D : List (Nat × Nat)} {S : IMap} {H : List SNd} {x y : Nat} {fr : Bool}
    (h : if (x, y) ∈ D ∨ x = y then WK Bs b s oa oc mb mc D.length ns w Q D S else WK Bs b s oa oc mb mc (D.length + 1) ns w (pks fr (kdN H x) (kdN H y) ++ Q) ((x, y) :: D) S) :
    WK Bs b s oa oc mb mc (psh H Q D x y fr).D.length ns w (psh H Q D x y fr).P (psh H Q D x y fr).D S := by
  unfold psh
  by_cases hc : (x, y) ∈ D ∨ x = y
  · rw [if_pos hc] at h ⊢; exact h
  · rw [if_neg hc] at h ⊢; exact h
/-- The nodes whose kids are pushed behind a link. -/
theorem bec_kids {H Hb H3 : List SNd} {t u : T} {x y z : Nat} {lv : Int} {vs : List Nat} {dx ry : SNd} (hb : Bec H t y ry.c.kind lv Hb z u) (ha : Alk Hb H3) (hx : H[x]? = some dx) (hxu : dx.up = x) (hx6 : dx.c.kind = 6) (hy : H[y]? = some ry) (hyu : ry.up = y) (hy5 : ry.c.kind ≠ 5) (hne : y ≠ x) (hD : Den H t y) (hno : ¬ x ∈ trav H t y []) :
    ∃ dz dy : SNd, (lnk H3 vs lv x z)[z]? = some dz ∧ dz.up = z ∧ (lnk H3 vs lv x z)[y]? = some dy ∧ dy.up = y ∧ dz.c.kind = dy.c.kind ∧ (∃ tz, Den (lnk H3 vs lv x z) tz z) ∧ ∃ ty, Den (lnk H3 vs lv x z) ty y := by
  have hxl := (List.getElem?_eq_some_iff.1 hx).1
  have hyl := (List.getElem?_eq_some_iff.1 hy).1
  rcases hb with ⟨h1, rfl, rfl, rfl⟩ | ⟨h1, rfl, rfl, rfl⟩
  · obtain ⟨e, e1, e2, e3, _⟩ := lnk_get ha vs lv x z hy
    rw [hyu, if_neg hne] at e2
    have hz := Den.target (vs := vs) (lv := lv) ha hD hno
    exact ⟨e, e, e1, e2, e1, e2, rfl, ⟨_, hz⟩, ⟨_, hz⟩⟩
  · obtain ⟨N, hN⟩ := likeH_pre H ry.c.kind lv
    have h0 : 0 < ar ry.c.kind := by
      obtain ⟨d, r, q1, q2, q3, q4, _, q6⟩ := hD.open
      rw [hy] at q1; injection q1 with q1
      rw [← q1, hyu, hy] at q2; injection q2 with q2
      rw [← q2] at q4 q6
      have h9 := q6.len
      rw [kidL_len] at h9
      rcases Nat.eq_zero_or_pos (ar ry.c.kind) with h | h
      · rw [h] at h9
        have hl := List.eq_nil_of_length_eq_zero h9
        have h8 := without_kids5 (t := t) (by rw [← q4]; exact hy5)
        rw [hl, h1] at h8
        cases h8
      · exact h
    have hyL : (likeH H ry.c.kind lv)[y]? = some ry := by rw [hN, List.getElem?_append_left hyl]; exact hy
    have hxL : (likeH H ry.c.kind lv)[x]? = some dx := by rw [hN, List.getElem?_append_left hxl]; exact hx
    obtain ⟨e, e1, e2, e3, _⟩ := lnk_get ha vs lv x (H.length + ar ry.c.kind) (likeH_node H ry.c.kind lv)
    obtain ⟨f, f1, f2, f3, _⟩ := lnk_get ha vs lv x (H.length + ar ry.c.kind) hyL
    rw [if_neg (by dsimp only; omega)] at e2
    rw [hyu, if_neg hne] at f2
    have hnl : ¬ x ∈ trav (likeH H ry.c.kind lv) (shell ry.c.kind H.length) (H.length + ar ry.c.kind) [] := fun hh => by have := likeH_in h0 hh; omega
    have hz := Den.target (vs := vs) (lv := lv) ha (likeH_den (lev := lv) h0) hnl
    have hzr := root_target (vs := vs) (lv := lv) (v := x) ha (likeH_node H ry.c.kind lv) rfl (by omega)
    exact ⟨e, f, e1, e2, f1, f2, e3.trans f3.symm, ⟨_, hz⟩, ⟨_, Den.subst ha hxL hxu hx6 hz hzr (by rw [hN]; exact Den.more N hD)⟩⟩
section
variable {s : Nat} {w : World}
variable {Bv g cap : Nat} {L C K : Int} {H : List SNd}
/-- What Agree hands back. -/
def AgP (Bv s g : Nat) (L C K : Int) (H : List SNd) (J : Wrk → Prop) (m0 : Nat) (w : World) (e : Ending) (w' : World) : Prop :=
  ∃ (l r er : Int) (σ : Wrk) (H' : List SNd) (g' cap' : Nat) (K' : Int), e = .returned (.tuple #[.int .i64 l, .int .i64 r, .int .i64 er]) ∧ K ≤ K' ∧ K' ≤ K + 3 * (m0 : Int) ∧ J σ ∧ Alk σ.H H' ∧ SV Bv s g' cap' L (C + ((H'.length : Int) - (H.length : Int))) K' w' H' ∧ (∀ d ∈ H', d.c.met ≤ K') ∧ Kp w.heap.size (fun i => i = s ∨ i = g) w w' ∧ (g' = g ∨ w.heap.size ≤ g') ∧ ((l = 0 ∧ r = 0 ∧ er = 0 ∧ σ.P = [] ∧ H' = σ.H) ∨ Bad σ l r er)
/-- Between two rounds. -/
structure AgI (Bv s g : Nat) (L C K : Int) (H : List SNd) (J : Wrk → Prop) (m0 : Nat) (μ : Wrk → Nat) (w : World) (bb mb mc : Nat) (σ : Wrk) (oa : Option Addr) (oc : Nat) (S : IMap) (ns gj cj : Nat) (Kj : Int) (wr : World) : Prop where
  j : J σ
  wk : WK w.heap.size bb s oa oc mb mc σ.D.length ns wr σ.P σ.D S
  sv : SV Bv s gj cj L (C + ((σ.H.length : Int) - (H.length : Int))) Kj wr σ.H
  met : ∀ d ∈ σ.H, d.c.met ≤ Kj
  so : SOk σ.H S ns
  kp : Kp w.heap.size (fun i => i = s ∨ i = g) w wr
  gj : gj = g ∨ w.heap.size ≤ gj
  k0 : K ≤ Kj
  k1 : Kj + 3 * (μ σ : Int) ≤ K + 3 * (m0 : Int)
  ge : H.length ≤ σ.H.length
theorem AgI.next {Bv s g : Nat} {L C K : Int} {H : List SNd} {J : Wrk → Prop} {m0 : Nat} {μ : Wrk → Nat} {w : World} {bb mb mc : Nat} {σ σ' : Wrk} {oa oa' : Option Addr} {oc oc' : Nat} {S S' : IMap} {ns ns' gj cj gj' cj' : Nat} {Kj Kj' : Int} {wr w' : World} (h : AgI Bv s g L C K H J m0 μ w bb mb mc σ oa oc S ns gj cj Kj wr) (hst : ∀ σ σ', J σ → Stp σ σ' → J σ' ∧ μ σ' < μ σ) (hs : Stp σ σ')
    (wk : WK w.heap.size bb s oa' oc' mb mc σ'.D.length ns' w' σ'.P σ'.D S') (sv : SV Bv s gj' cj' L (C + ((σ'.H.length : Int) - (H.length : Int))) Kj' w' σ'.H) (met : ∀ d ∈ σ'.H, d.c.met ≤ Kj') (so : SOk σ'.H S' ns') (kp : Kp w.heap.size (fun i => i = s ∨ i = g) w w') (gj1 : gj' = g ∨ w.heap.size ≤ gj') (k0 : Kj ≤ Kj') (k1 : Kj' ≤ Kj + 3) (ge : σ.H.length ≤ σ'.H.length) :
    AgI Bv s g L C K H J m0 μ w bb mb mc σ' oa' oc' S' ns' gj' cj' Kj' w' ∧ μ σ' < μ σ := by
  obtain ⟨h1, h2⟩ := hst σ σ' h.j hs
  have := h.k0; have := h.k1
  exact ⟨⟨h1, wk, sv, met, so, kp, gj1, by omega, by omega, Nat.le_trans h.ge ge⟩, h2⟩
set_option maxRecDepth 100000 in
set_option maxHeartbeats 16000000 in
theorem agree13_any (J : Wrk → Prop) (μ : Wrk → Nat) (Lim : Nat) (hok : ∀ σ, J σ → WOk Lim σ) (hst : ∀ σ σ', J σ → Stp σ σ' → J σ' ∧ μ σ' < μ σ)
    (hsv : SV Bv s g cap L C K w H) (hm : ∀ d ∈ H, d.c.met ≤ K) (hK : 0 ≤ K) (hBd : Bds L C H) (hroom : C + ((Lim : Int) - (H.length : Int)) ≤ L) {a b m0 : Nat} (h0 : J ⟨H, [⟨a, b, false⟩], []⟩) (hm0 : μ ⟨H, [⟨a, b, false⟩], []⟩ = m0) (hKm : K + 3 * (m0 : Int) < 4611686018427380000) (hmu : ∀ σ, J σ → σ.P ≠ [] → 1 ≤ μ σ) :
    Calls Try.prog 35 #[.pointer (some ⟨s, 0, none⟩), .int .i64 (a : Int), .int .i64 (b : Int)] w (AgP Bv s g L C K H J m0 w) := by
  have hok0 := hok _ h0
  obtain ⟨ha, hb⟩ := hok0.nodes ⟨a, b, false⟩ (by simp)
  dsimp only at ha hb
  obtain ⟨⟨ta, hta, _⟩, ⟨tb, htb, _⟩⟩ := hok0.ex ⟨a, b, false⟩ (by simp)
  dsimp only at hta htb
  obtain ⟨da, dra, qa1, qa2, _⟩ := Den.rnode hta
  obtain ⟨db, drb, qb1, qb2, _⟩ := Den.rnode htb
  have hra := root12_any hsv qa1
  have hba : ((da.up : Int) == -1) = false := by simp
  have hbb : ((db.up : Int) == -1) = false := by simp
  have HOK := Lib.hid hok; have HST := Lib.hid hst; have HSV := Lib.hid hsv; have HM := Lib.hid hm; have HK := Lib.hid hK; have HBD := Lib.hid hBd; have HROOM := Lib.hid hroom; have H0 := Lib.hid h0; have HM0 := Lib.hid hm0; have HKM := Lib.hid hKm; have HMUA := Lib.hid hmu; have HRA := Lib.hid hra; have HF := Lib.hid hsv.far; have HDB := Lib.hid qb1
  clear hok hst hsv hm hK hBd hroom h0 hm0 hKm hmu hra hok0 ha hb hta htb qa1 qa2 qb1 qb2
  go_enter Try.func35, Try.ntmps35
  go_wp2_with fail
  go_step3
  go_wp2_with fail
  refine HRA.out.mono ?_
  rintro e w1 ⟨rfl, hsv, hk⟩
  have hrb := root12_any hsv HDB.out
  have HRB := Lib.hid hrb; have K1 := Lib.hid hk
  clear hsv hk hrb
  go_wp2_with fail
  refine HRB.out.mono ?_
  rintro e w2 ⟨rfl, hsv, hk⟩
  have hz1 := K1.out.size; have hz2 := hk.size
  have S2 := Lib.hid hsv; have K2 := Lib.hid (show Kp w.heap.size (fun i => i = s ∨ i = g) w w2 from (K1.out.trans (hk.mono K1.out.size (fun _ _ h => h))).mono (Nat.le_refl _) (fun _ _ h => .inr h))
  have HZ2 := Lib.hid (show w.heap.size ≤ w2.heap.size by omega)
  clear hsv hk hz1 hz2 hba
  have hmk := @run_makeMap Try.prog
  go_wp2_with fail
  go_step3
  go_wp2_with fail
  obtain ⟨W3, hW3⟩ : ∃ W, w2.alloc (.cells #[.int .i64 (a : Int), .int .i64 (b : Int), .bool false] 113) = W := ⟨_, rfl⟩
  rw [hW3]
  obtain ⟨W4, hW4⟩ : ∃ W, ((W3.alloc (.map #[] 0)).alloc (.map #[] 0)).alloc (.cells #[.pointer (some ⟨s, 0, none⟩), .slice (some ⟨w2.heap.size, 0, none⟩) 1 1, .map (some (w2.heap.size + 1)), .map (some (w2.heap.size + 1 + 1))] 117) = W := ⟨_, rfl⟩
  rw [hW4]
  clear hbb hmk
  have hz3 : W3.heap.size = w2.heap.size + 1 := by rw [← hW3, World.size_alloc]
  have hz4 : W4.heap.size = w2.heap.size + 4 := by rw [← hW4, World.size_alloc, World.size_alloc, World.size_alloc, hz3]
  have hb3 : Below w2.heap.size w2 W3 := by rw [← hW3]; exact (Below.refl _ _).alloc (Nat.le_refl _) _
  have hb4 : Below w2.heap.size w2 W4 := by rw [← hW4]; exact ((hb3.alloc (by omega) _).alloc (by rw [World.size_alloc]; omega) _).alloc (by rw [World.size_alloc, World.size_alloc]; omega) _
  have hrow3 : W3.ownsRow w.heap.size 113 3 (.slice (some ⟨w2.heap.size, 0, none⟩) 1 1) 1 (prRow [⟨a, b, false⟩]) := by
    exact ⟨by simp [prRow, prC], .inr ⟨w2.heap.size, 1, #[.int .i64 (a : Int), .int .i64 (b : Int), .bool false], rfl, HZ2.out, by rw [← hW3]; exact World.alloc_heap_new w2 _, Nat.le_refl _, by unfold maxLen; omega, rfl, rfl⟩⟩
  have hdn : DnAt (W3.alloc (.map #[] 0)) W3.heap.size 0 [] := dn_new W3
  have him : IMAt ((W3.alloc (.map #[] 0)).alloc (.map #[] 0)) (W3.alloc (.map #[] 0)).heap.size 0 (fun _ => none) := im_new _
  have hb34 : Below W3.heap.size W3 W4 := by rw [← hW4]; exact (((Below.refl _ _).alloc (Nat.le_refl _) _).alloc (by rw [World.size_alloc]; omega) _).alloc (by rw [World.size_alloc, World.size_alloc]; omega) _
  have hwk4 : WK w.heap.size (w2.heap.size + 3) s (some ⟨w2.heap.size, 0, none⟩) 1 (w2.heap.size + 1) (w2.heap.size + 2) 0 0 W4 [⟨a, b, false⟩] [] (fun _ => none) := by
    refine ⟨?_, own_same hrow3 (fun i hi => hb34.block i (by have hi' : w2.heap.size = i := (by simpa [Value.ownBlock] using hi); omega)), ?_, ?_, by have := HZ2.out; omega, by have := HZ2.out; omega, by have := HZ2.out; omega, by omega⟩
    · have h9 := World.alloc_heap_new ((W3.alloc (.map #[] 0)).alloc (.map #[] 0)) (.cells #[.pointer (some ⟨s, 0, none⟩), .slice (some ⟨w2.heap.size, 0, none⟩) 1 1, .map (some (w2.heap.size + 1)), .map (some (w2.heap.size + 1 + 1))] 117)
      rw [hW4, World.size_alloc, World.size_alloc, hz3] at h9
      exact h9
    · rw [hz3] at hdn
      exact hdn.same (by rw [← hW4]; exact (Below.heap_alloc _ _ _ (by rw [World.size_alloc, World.size_alloc]; omega)).trans (Below.heap_alloc _ _ _ (by rw [World.size_alloc]; omega)))
    · rw [World.size_alloc, hz3] at him
      exact him.same (by rw [← hW4]; exact Below.heap_alloc _ _ _ (by rw [World.size_alloc, World.size_alloc]; omega))
  have hI0 : AgI Bv s g L C K H J m0 μ w (w2.heap.size + 3) (w2.heap.size + 1) (w2.heap.size + 2) ⟨H, [⟨a, b, false⟩], []⟩ (some ⟨w2.heap.size, 0, none⟩) 1 (fun _ => none) 0 g cap K W4 :=
    ⟨H0.out, hwk4, by rw [Int.sub_self, Int.add_zero]; exact S2.out.below hb4, HM.out, SOk.new H, K2.out.trans (Kp.of_below (hb4.mono HZ2.out)), .inl rfl, Int.le_refl _, by rw [HM0.out]; exact Int.le_refl _, Nat.le_refl _⟩
  have HI0 := Lib.hid hI0; have HZ4 := Lib.hid (show w2.heap.size + 4 ≤ W4.heap.size by omega)
  clear hz3 hz4 hb3 hb4 hrow3 hdn him hb34 hwk4 hI0 hW3 hW4
  obtain ⟨bb, hbb⟩ : ∃ q, w2.heap.size + 3 = q := ⟨_, rfl⟩
  obtain ⟨mb, hmb⟩ : ∃ q, w2.heap.size + 1 = q := ⟨_, rfl⟩
  obtain ⟨mc, hmc⟩ : ∃ q, w2.heap.size + 2 = q := ⟨_, rfl⟩
  rw [show w2.heap.size + 1 + 1 + 1 = bb from hbb]
  have HI := Lib.hid (show AgI Bv s g L C K H J m0 μ w bb mb mc ⟨H, [⟨a, b, false⟩], []⟩ (some ⟨w2.heap.size, 0, none⟩) 1 (fun _ => none) 0 g cap K W4 by rw [← hbb, ← hmb, ← hmc]; exact HI0.out)
  have HBB := Lib.hid (show w.heap.size ≤ bb by have := HZ2.out; omega)
  clear HI0 hbb hmb hmc
  go_loopg [6, 7, 8, 10, 11, 12, 13, 14, 52, 56, 62, 68, 81, 94] m0 (fun gk v6 v7 v8 v10 v11 v12 v13 v14 v52 v56 v62 v68 v81 v94 wr => ∃ (σ : Wrk) (oa : Option Addr) (oc : Nat) (S : IMap) (ns gj cj : Nat) (Kj : Int), v6 = .int .i64 0 ∧ v7 = .int .i64 0 ∧ v8 = .int .i64 0 ∧ AgI Bv s g L C K H J m0 μ w bb mb mc σ oa oc S ns gj cj Kj wr ∧ gk = μ σ)
  case atStart => exact ⟨_, _, _, _, _, _, _, _, rfl, rfl, rfl, HI.out, HM0.out.symm⟩
  case round =>
  obtain ⟨⟨H1, P1, D1⟩, oa, oc, S, ns, gj, cj, Kj, rfl, rfl, rfl, hI, rfl⟩ := hrel
  have hbox := hI.wk.box
  dsimp only at hbox
  cases P1 with
  | nil =>
    have b1 : wr.cell? ⟨bb, 1, none⟩ = some (.slice oa 0 oc) := cell_box hbox rfl rfl
    have HII := Lib.hid hI
    clear hbox hI
    go_wp2_with fail
    (try rw [Exit.noGoto_ret])
    refine bodyPost_ret (v := .tuple #[.int .i64 0, .int .i64 0, .int .i64 0]) (by simp [results, Try.f35, go_sem]) rfl ?_
    have hk1 := HII.out.k1
    exact ⟨0, 0, 0, ⟨H1, [], D1⟩, H1, gj, cj, Kj, rfl, HII.out.k0, by omega, HII.out.j, Alk.refl _, HII.out.sv, HII.out.met, HII.out.kp, HII.out.gj, .inl ⟨rfl, rfl, rfl, rfl, rfl⟩⟩
  | cons p Q =>
    have hok := HOK.out _ hI.j
    obtain ⟨hpx, hpy⟩ := hok.nodes p (by simp)
    obtain ⟨⟨tx, htx, hsx⟩, ⟨ty, hty, hsy⟩⟩ := hok.ex p (by simp)
    dsimp only at hpx hpy htx hty
    obtain ⟨dx, rx, ax1, ax2, ax3, ax4, ax5, ax6⟩ := Den.rnode htx
    obtain ⟨dy, ry, ay1, ay2, ay3, ay4, ay5, ay6⟩ := Den.rnode hty
    obtain ⟨x, hx⟩ : ∃ x, rootOf H1 p.x = x := ⟨_, rfl⟩
    obtain ⟨y, hy⟩ : ∃ y, rootOf H1 p.y = y := ⟨_, rfl⟩
    rw [hx] at ax2 ax3 ax4 ax5
    rw [hy] at ay2 ay3 ay4 ay5
    rw [List.length_cons] at hbox
    have b1 : wr.cell? ⟨bb, 1, none⟩ = some (.slice oa (Q.length + 1) oc) := cell_box hbox rfl rfl
    have hpop := pop13_any hI.wk
    have hgt : decide ((0 : Int) < ((Q.length + 1 : Nat) : Int)) = true := by simp
    have hgt2 : decide ((0 : Int) < ((Q.length : Nat) : Int) + 1) = true := by simp
    have hap := hI.wk.apart hI.sv (i := bb) (.inl rfl)
    have HII := Lib.hid hI; have HPOP := Lib.hid hpop; have HOKK := Lib.hid hok; have HX := Lib.hid hx; have HY := Lib.hid hy; have HAX1 := Lib.hid ax1; have HAX2 := Lib.hid ax2; have HAX3 := Lib.hid ax3; have HAX4 := Lib.hid ax4; have HDX := Lib.hid ax5; have HAY1 := Lib.hid ay1; have HAY2 := Lib.hid ay2; have HAY3 := Lib.hid ay3; have HAY4 := Lib.hid ay4; have HDY := Lib.hid ay5; have HSX := Lib.hid hsx; have HSY := Lib.hid hsy; have HAP := Lib.hid hap
    clear hI hpop hok hx hy ax1 ax2 ax3 ax4 ax5 ax6 ay1 ay2 ay3 ay4 ay5 ay6 hsx hsy hap hpx hpy htx hty hbox
    go_wp2_with fail
    refine HPOP.out.mono ?_
    clear HPOP b1
    rintro e w3 ⟨rfl, hwk, hk⟩
    have hsf := HII.out.sv.far
    have hsv3 := HII.out.sv.same (hk.block s hsf.2.2.1 (fun e => HAP.out.1 e.symm)) (hk.block gj hsf.2.1 (fun e => HAP.out.2 e.symm))
    have HW3 := Lib.hid hwk; have S3 := Lib.hid hsv3; have K3 := Lib.hid hk; have HSF := Lib.hid hsf
    clear hwk hsv3 hk hsf hgt hgt2
    go_upto_region 6 with fail
    obtain ⟨W5, hW5⟩ : ∃ W, w3.alloc (.cells #[.int .i64 (p.x : Int), .int .i64 (p.y : Int), .bool p.fr] 113) = W := ⟨_, rfl⟩
    rw [hW5]
    have hb5 : Below w3.heap.size w3 W5 := by rw [← hW5]; exact (Below.refl _ _).alloc (Nat.le_refl _) _
    have hx5 : W5.heap[w3.heap.size]? = some (.cells #[.int .i64 (p.x : Int), .int .i64 (p.y : Int), .bool p.fr] 113) := by rw [← hW5]; exact World.alloc_heap_new _ _
    have hz5 : W5.heap.size = w3.heap.size + 1 := by rw [← hW5, World.size_alloc]
    have hz3 := K3.out.size
    obtain ⟨pb, hpb⟩ : ∃ pb, w3.heap.size = pb := ⟨_, rfl⟩
    rw [hpb] at hx5 hz5 ⊢
    have hsf := HSF.out
    have hc5 := fun z (hz : RK s gj W5.drew z) => (show z.heap[pb]? = some (.cells #[.int .i64 (p.x : Int), .int .i64 (p.y : Int), .bool p.fr] 113) from (show Kp W5.heap.size (fun k => k = s ∨ k = gj) W5.drew z from hz).heap (show W5.drew.heap[pb]? = _ from hx5) (by omega) (by omega))
    have hcell := fun z (hz : RK s gj W5.drew z) => And.intro (cell_box (hc5 z hz) rfl rfl : z.cell? ⟨pb, 0, none⟩ = some (.int .i64 (p.x : Int))) (cell_box (hc5 z hz) rfl rfl : z.cell? ⟨pb, 1, none⟩ = some (.int .i64 (p.y : Int)))
    have hrx := fun z (hz : SV Bv s gj cj L (C + ((H1.length : Int) - (H.length : Int))) Kj z H1) => root12_any hz HAX1.out
    have hry := fun z (hz : SV Bv s gj cj L (C + ((H1.length : Int) - (H.length : Int))) Kj z H1) => root12_any hz HAY1.out
    rw [HAX2.out] at hrx
    rw [HAY2.out] at hry
    have HRX := Lib.hid hrx; have HRY := Lib.hid hry; have HCELL := Lib.hid hcell; have HC5 := Lib.hid hc5; have S5 := Lib.hid ((S3.out.below hb5).drew); have HW5 := Lib.hid ((HW3.out.below hb5).keep (w' := W5.drew) (fun _ _ => rfl)); have HPB := Lib.hid (show wr.heap.size ≤ pb ∧ pb < W5.heap.size by omega)
    have HK5 := Lib.hid (show Kp wr.heap.size (fun i => i = s ∨ i = gj ∨ i = bb) wr W5.drew from ((K3.out.mono (M' := fun i => i = s ∨ i = gj ∨ i = bb) (Nat.le_refl _) (fun _ _ h => .inr (.inr h))).trans (Kp.of_below (hb5.mono hz3))).drew)
    clear hrx hry hcell hc5 hb5 hx5 hz5 hz3 hpb hsf hW5 S3 HW3 K3
    refine wp_region_rel (R := RK s gj) RK.refl RK.trans [(0, false), (0, false), (0, false), (1, false), (1, false), (1, false), (0, true), (0, true), (0, false), (0, false)] (by kernel_rfl) (by kernel_rfl) (by kernel_rfl) (fun _ _ _ d _ h => by cases d <;> exact h) ?_
    repeat
      first
      | (first | with_reducible refine rp0 (fun K hK => ?_) | with_reducible refine rp1 (fun K hK => ?_) | with_reducible refine rp2 (fun K hK => ?_) | with_reducible refine rp3 (fun K hK => ?_) | with_reducible refine rp4 (fun K hK => ?_)
         go_simp
         first
         | (with_reducible refine hK _ _ ?_; clear hK K)
         | (with_reducible apply Exists.intro
            refine ⟨fun x hx => ?_, hK _ _ ?_⟩
            first
              | (with_reducible exact rfl)
              | (have y0 := (HCELL.out _ hx).1; have y1 := (HCELL.out _ hx).2; go_simp; done)
              | (have y0 := (HCELL.out _ hx).1; have y1 := (HCELL.out _ hx).2; go_simp; with_reducible exact rfl)
            clear hK K))
      | (first | with_reducible refine rk0 ?_ (fun K hK => ?_) | with_reducible refine rk1 ?_ (fun K hK => ?_) | with_reducible refine rk2 ?_ (fun K hK => ?_) | with_reducible refine rk3 ?_ (fun K hK => ?_) | with_reducible refine rk4 ?_ (fun K hK => ?_)
         rfl
         go_simp
         with_reducible refine hK _ _ ?_
         clear hK K)
    first | with_reducible refine rc0 (fun K hK => ?_) | with_reducible refine rc1 (fun K hK => ?_) | with_reducible refine rc2 (fun K hK => ?_) | with_reducible refine rc3 (fun K hK => ?_) | with_reducible refine rc4 (fun K hK => ?_)
    go_simp
    refine (HRX.out _ S5.out).mono ?_
    rintro e w6 ⟨rfl, hsv, hk⟩
    have hk' : RK s gj W5.drew w6 := hk.mono (Nat.le_refl _) (fun _ _ h => .inr h)
    refine ⟨hk', hK _ _ ?_⟩
    clear hK K
    have S6 := Lib.hid hsv; have K6 := Lib.hid hk'
    clear hsv hk hk'
    repeat
      first
      | (first | with_reducible refine rp0 (fun K hK => ?_) | with_reducible refine rp1 (fun K hK => ?_) | with_reducible refine rp2 (fun K hK => ?_) | with_reducible refine rp3 (fun K hK => ?_) | with_reducible refine rp4 (fun K hK => ?_)
         go_simp
         first
         | (with_reducible refine hK _ _ ?_; clear hK K)
         | (with_reducible apply Exists.intro
            refine ⟨fun x hx => ?_, hK _ _ ?_⟩
            first
              | (with_reducible exact rfl)
              | (have y0 := (HCELL.out _ (K6.out.trans hx)).1; have y1 := (HCELL.out _ (K6.out.trans hx)).2; go_simp; done)
              | (have y0 := (HCELL.out _ (K6.out.trans hx)).1; have y1 := (HCELL.out _ (K6.out.trans hx)).2; go_simp; with_reducible exact rfl)
            clear hK K))
      | (first | with_reducible refine rk0 ?_ (fun K hK => ?_) | with_reducible refine rk1 ?_ (fun K hK => ?_) | with_reducible refine rk2 ?_ (fun K hK => ?_) | with_reducible refine rk3 ?_ (fun K hK => ?_) | with_reducible refine rk4 ?_ (fun K hK => ?_)
         rfl
         go_simp
         with_reducible refine hK _ _ ?_
         clear hK K)
    first | with_reducible refine rc0 (fun K hK => ?_) | with_reducible refine rc1 (fun K hK => ?_) | with_reducible refine rc2 (fun K hK => ?_) | with_reducible refine rc3 (fun K hK => ?_) | with_reducible refine rc4 (fun K hK => ?_)
    go_simp
    refine (HRY.out _ S6.out).mono ?_
    rintro e w7 ⟨rfl, hsv, hk⟩
    have hk' : RK s gj w6 w7 := hk.mono (Nat.le_refl _) (fun _ _ h => .inr h)
    refine ⟨hk', hK _ _ ?_⟩
    clear hK K
    have S7 := Lib.hid hsv; have K7 := Lib.hid (K6.out.trans hk')
    clear hsv hk hk'
    repeat
      first
      | (first | with_reducible refine rp0 (fun K hK => ?_) | with_reducible refine rp1 (fun K hK => ?_) | with_reducible refine rp2 (fun K hK => ?_) | with_reducible refine rp3 (fun K hK => ?_) | with_reducible refine rp4 (fun K hK => ?_)
         go_simp
         first
         | (with_reducible refine hK _ _ ?_; clear hK K)
         | (with_reducible apply Exists.intro
            refine ⟨fun x hx => ?_, hK _ _ ?_⟩
            first
              | (with_reducible exact rfl)
            clear hK K))
      | (first | with_reducible refine rk0 ?_ (fun K hK => ?_) | with_reducible refine rk1 ?_ (fun K hK => ?_) | with_reducible refine rk2 ?_ (fun K hK => ?_) | with_reducible refine rk3 ?_ (fun K hK => ?_) | with_reducible refine rk4 ?_ (fun K hK => ?_)
         rfl
         go_simp
         with_reducible refine hK _ _ ?_
         clear hK K)
    with_reducible refine rel_nil ?_
    have hkx := kind12_any S7.out HAX3.out (r := rx) (by rw [HAX4.out]; exact HAX3.out)
    have HKX := Lib.hid hkx
    clear hkx
    go_wp2_with fail
    refine HKX.out.mono ?_
    clear HKX
    rintro e w8 ⟨rfl, hsv, hk⟩
    have hky := kind12_any hsv HAY3.out (r := ry) (by rw [HAY4.out]; exact HAY3.out)
    have K8 := Lib.hid (K7.out.trans (show RK s gj w7 w8 from hk.mono (Nat.le_refl _) (fun _ _ h => .inr h)))
    have HKY := Lib.hid hky
    clear hsv hk hky
    go_wp2_with fail
    refine HKY.out.mono ?_
    clear HKY
    rintro e w9 ⟨rfl, hsv, hk⟩
    have k9 : RK s gj W5.drew w9 := K8.out.trans (show RK s gj w8 w9 from hk.mono (Nat.le_refl _) (fun _ _ h => .inr h))
    have hwk9 := HW5.out.kp S5.out k9
    have hp9 := HC5.out w9 k9
    have HW9 := Lib.hid hwk9; have S9 := Lib.hid hsv; have HP9 := Lib.hid hp9
    have K9 := Lib.hid (show Kp wr.heap.size (fun i => i = s ∨ i = gj ∨ i = bb) wr w9 from HK5.out.trans (Kp.mono (M' := fun i => i = s ∨ i = gj ∨ i = bb) k9 HK5.out.size (fun i _ h => by rcases h with h | h; exact .inl h; exact .inr (.inl h))))
    clear hsv hk k9 hwk9 hp9 S5 S6 S7 K6 K7 K8 HRX HRY HCELL HC5 HW5 HK5
    obtain ⟨kx, hkx⟩ : ∃ k, rx.c.kind = k := ⟨_, rfl⟩
    obtain ⟨ky, hky⟩ : ∃ k, ry.c.kind = k := ⟨_, rfl⟩
    have HKDX := Lib.hid (show kd H1 x = kx from (kd_of HAX3.out).trans hkx)
    have HKDY := Lib.hid (show kd H1 y = ky from (kd_of HAY3.out).trans hky)
    rw [hkx, hky]
    have HKX := Lib.hid hkx; have HKY := Lib.hid hky
    clear hkx hky
    have HKW := Lib.hid (show ∀ w' : World, Kp wr.heap.size (fun i => i = s ∨ i = gj ∨ w.heap.size ≤ i) wr w' → Kp w.heap.size (fun i => i = s ∨ i = g) w w' from fun w' hk => HII.out.kp.trans (hk.mono HII.out.kp.size (fun i hi h => by
      have hg := HII.out.gj
      rcases h with h | h | h
      · exact .inl h
      · rcases hg with hg | hg
        · exact .inr (h.trans hg)
        · omega
      · omega)))
    have K9 := Lib.hid (show Kp wr.heap.size (fun i => i = s ∨ i = gj ∨ w.heap.size ≤ i) wr w9 from K9.out.mono (Nat.le_refl _) (fun i _ h => by rcases h with h | h | h; exact .inl h; exact .inr (.inl h); exact .inr (.inr (by rw [h]; exact HII.out.wk.lb))))
    have HMU := Lib.hid (HMUA.out _ HII.out.j (by simp))
    have HGE := Lib.hid (show w.heap.size ≤ wr.heap.size ∧ wr.heap.size ≤ w9.heap.size from ⟨HII.out.kp.size, K9.out.size⟩)
    by_cases hxy : x = y
    · have hbx : ((x : Int) == (y : Int)) = true := by simp [hxy]
      have hbx' : (x == y) = true := by simp [hxy]
      have hnx := HII.out.next HST.out (Stp.same HX.out HY.out hxy) HW9.out S9.out HII.out.met HII.out.so (HKW.out _ K9.out) HII.out.gj (Int.le_refl _) (by omega) (Nat.le_refl _)
      have HNX := Lib.hid hnx
      clear hnx hxy
      go_wp2_with fail
      go_roundg (μ ⟨H1, Q, D1⟩)
      case measure => exact HNX.out.2
      case rel => exact ⟨_, _, _, _, _, _, _, _, rfl, rfl, rfl, HNX.out.1, rfl⟩
    have hbx : ((x : Int) == (y : Int)) = false := by simp; omega
    have hbx' : (x == y) = false := by simp [hxy]
    have HNE := Lib.hid hxy
    clear hxy
    by_cases h5 : kx = 5
    · have hb5 : (kx == 5) = true := by simp [h5]
      have hlw := flower12_any S9.out HII.out.met ⟨by have := HII.out.k0; have := HK.out; omega, by have := HII.out.k1; have := HKM.out; omega⟩ HDY.out HSY.out 0 (by decide)
      have HLW := Lib.hid hlw; have H5 := Lib.hid h5
      clear hlw h5
      go_wp2_with fail
      refine HLW.out.mono ?_
      clear HLW
      rintro e w10 ⟨rfl, hk, H2, ha, hm2, hsv⟩
      have hwk := HW9.out.kp S9.out hk
      have hnx := HII.out.next HST.out (Stp.dynL (t := ty) HX.out HY.out HNE.out (by rw [HKDX.out]; exact H5.out) HDY.out ha) hwk (by dsimp only; rw [lows_len, ← ha.len]; exact hsv) (lows_met hm2 _ _) ((HII.out.so.alk ha).lows _ _) (HKW.out _ (K9.out.trans (hk.mono K9.out.size (fun i _ h => by rcases h with h | h; exact .inl h; exact .inr (.inl h))))) HII.out.gj (by omega) (by omega) (by dsimp only; rw [lows_len, ← ha.len]; exact Nat.le_refl _)
      have HNX := Lib.hid hnx
      clear hnx hwk hk ha hm2 hsv
      go_wp2_with fail
      go_roundg (μ ⟨lows H2 (varsOf H1 (trav H1 ty y [])) 0, Q, D1⟩)
      case measure => exact HNX.out.2
      case rel => exact ⟨_, _, _, _, _, _, _, _, rfl, rfl, rfl, HNX.out.1, rfl⟩
    have hb5 : (kx == 5) = false := by simp [h5]
    have H5 := Lib.hid h5
    clear h5
    by_cases h5y : ky = 5
    · have hb5y : (ky == 5) = true := by simp [h5y]
      have hlw := flower12_any S9.out HII.out.met ⟨by have := HII.out.k0; have := HK.out; omega, by have := HII.out.k1; have := HKM.out; omega⟩ HDX.out HSX.out 0 (by decide)
      have HLW := Lib.hid hlw; have H5Y := Lib.hid h5y
      clear hlw h5y
      go_wp2_with fail
      refine HLW.out.mono ?_
      clear HLW
      rintro e w10 ⟨rfl, hk, H2, ha, hm2, hsv⟩
      have hwk := HW9.out.kp S9.out hk
      have hnx := HII.out.next HST.out (Stp.dynR (t := tx) HX.out HY.out HNE.out (by rw [HKDX.out]; exact H5.out) (by rw [HKDY.out]; exact H5Y.out) HDX.out ha) hwk (by dsimp only; rw [lows_len, ← ha.len]; exact hsv) (lows_met hm2 _ _) ((HII.out.so.alk ha).lows _ _) (HKW.out _ (K9.out.trans (hk.mono K9.out.size (fun i _ h => by rcases h with h | h; exact .inl h; exact .inr (.inl h))))) HII.out.gj (by omega) (by omega) (by dsimp only; rw [lows_len, ← ha.len]; exact Nat.le_refl _)
      have HNX := Lib.hid hnx
      clear hnx hwk hk ha hm2 hsv
      go_wp2_with fail
      go_roundg (μ ⟨lows H2 (varsOf H1 (trav H1 tx x [])) 0, Q, D1⟩)
      case measure => exact HNX.out.2
      case rel => exact ⟨_, _, _, _, _, _, _, _, rfl, rfl, rfl, HNX.out.1, rfl⟩
    have hb5y : (ky == 5) = false := by simp [h5y]
    have H5Y := Lib.hid h5y
    clear h5y
    by_cases h6 : kx = 6
    · have hb6 : (kx == 6) = true := by simp [h6]
      have H6 := Lib.hid h6
      clear h6
      have hok := HOKK.out
      have hlen := hok.len; have hroo := hok.room; have hge := HII.out.ge
      dsimp only at hlen hroo hge
      have hbdj : Bds L (C + ((H1.length : Int) - (H.length : Int))) H1 := by
        obtain ⟨q1, q2, q3, q4⟩ := HBD.out
        have := HROOM.out
        exact ⟨by omega, by omega, q3, by omega⟩
      have hbc := become13_any HW9.out S9.out HII.out.met ⟨by have := HII.out.k0; have := HK.out; omega, by have := HII.out.k1; have := HKM.out; omega⟩ hbdj HII.out.so hlen (by have := HROOM.out; omega) HAX3.out HAX4.out (by rw [HKX.out]; exact H6.out) (hok.lev _ _ HAX3.out) HAY3.out HAY4.out (by rw [HKY.out]; exact H5Y.out) HDY.out HSY.out (fun e => HNE.out e.symm) p.fr (fun e => by have h9 := HOKK.out.frx p Q ty rfl e (by dsimp only; rw [HX.out, HKDX.out]; exact H6.out) (by dsimp only; rw [HY.out]; exact HDY.out) (by dsimp only; rw [HX.out, HY.out]; exact HNE.out); dsimp only at h9; rw [HX.out, HY.out] at h9; exact h9)
      have p2 : w9.cell? ⟨pb, 2, none⟩ = some (.bool p.fr) := cell_box HP9.out rfl rfl
      have HBC := Lib.hid hbc
      clear hbc hok hlen hroo hge hbdj
      go_wp2_with fail
      refine HBC.out.mono ?_
      clear HBC p2
      rintro e w10 ⟨g5, cap5, S5, ns5, K5, ⟨hk1, hk2⟩, hk, hg5, hwk, h⟩
      have hkw : Kp wr.heap.size (fun i => i = s ∨ i = gj ∨ w.heap.size ≤ i) wr w10 := K9.out.trans (hk.mono K9.out.size (fun i _ h => by rcases h with h | h | h; exact .inl h; exact .inr (.inl h); exact .inr (.inr (by rw [h]; exact HII.out.wk.lc))))
      have hgj5 : g5 = g ∨ w.heap.size ≤ g5 := by have := HII.out.gj; have := HGE.out; omega
      by_cases hin : x ∈ trav H1 ty y []
      · rw [if_pos hin] at h
        obtain ⟨z, H2, rfl, ha2, hsv, hm2⟩ := h
        have HIN := Lib.hid hin; have S10 := Lib.hid hsv; have HA2 := Lib.hid ha2; have HM2 := Lib.hid hm2; have HKW2 := Lib.hid hkw; have HG5 := Lib.hid hgj5; have HK12 := Lib.hid (And.intro hk1 hk2)
        clear hin hsv ha2 hm2 hkw hgj5 hk hwk hg5 hk1 hk2
        go_wp2_with fail
        (try rw [Exit.noGoto_ret])
        refine bodyPost_ret (v := .tuple #[.int .i64 0, .int .i64 0, .int .i64 5]) (by simp [results, Try.f35, go_sem]) rfl ?_
        have hk0 := HII.out.k0; have hk1 := HII.out.k1; have hkk := HK12.out
        have hmu : 1 ≤ μ ⟨H1, p :: Q, D1⟩ := HMU.out
        exact ⟨0, 0, 5, ⟨H1, p :: Q, D1⟩, H2, g5, cap5, K5, rfl, by omega, by omega, HII.out.j, HA2.out, by rw [← HA2.out.len]; exact S10.out, HM2.out, HKW.out _ HKW2.out, HG5.out, .inr (Bad.loopL (H := H1) (p := p) (Q := Q) (D := D1) HX.out HY.out HNE.out (by rw [HKDX.out]; exact H6.out) (by rw [HKDY.out]; exact H5Y.out) HDY.out HIN.out)⟩
      · rw [if_neg hin] at h
        obtain ⟨Hb, H3, z, u, rfl, hbec, ha3, hm3, hsv, hso⟩ := h
        have HIN := Lib.hid hin
        obtain ⟨dz, dn, gz, gzu, gy, gyu, gk, ⟨tz, gtz⟩, ⟨tn, gty⟩⟩ := bec_kids (vs := varsOf Hb (trav Hb u z [])) (lv := rx.c.level) hbec ha3 HAX3.out HAX4.out (by rw [HKX.out]; exact H6.out) HAY3.out HAY4.out (by rw [HKY.out]; exact H5Y.out) (fun e => HNE.out e.symm) HDY.out hin
        have hstp := Stp.varL (H := H1) (p := p) (Q := Q) (D := D1) HX.out HY.out HNE.out (by rw [HKDX.out]; exact H6.out) (by rw [HKDY.out]; exact H5Y.out) HDY.out HIN.out (by rw [kd_of HAY3.out, lvl_of HAX3.out]; exact hbec) ha3
        rw [lvl_of HAX3.out] at hstp
        have hbl : H1.length ≤ Hb.length := by
          rcases hbec with ⟨_, e, _⟩ | ⟨_, e, _⟩
          · rw [e]; exact Nat.le_refl _
          · rw [e, likeH_len]; omega
        obtain ⟨lkH, hlk⟩ : ∃ q, lnk H3 (varsOf Hb (trav Hb u z [])) rx.c.level x z = q := ⟨_, rfl⟩
        have hll : lkH.length = Hb.length := by rw [← hlk, lnk_len, ← ha3.len]
        have hml : ∀ d ∈ lkH, d.c.met ≤ K5 := by rw [← hlk]; exact Sg.link_met (lows_met hm3 _ _)
        rw [hlk] at gz gy gtz gty hstp hsv hso
        obtain ⟨hj2, _⟩ := HST.out _ _ HII.out.j hstp
        have hok2 := HOK.out _ hj2
        rw [show C + ((H1.length : Int) - (H.length : Int)) + ((Hb.length : Int) - (H1.length : Int)) = C + ((lkH.length : Int) - (H.length : Int)) from by rw [hll]; omega] at hsv
        have hpk := pushKids13_any hwk hsv (by have := hk.size; have := HGE.out; omega) HF.out.2.2.1 gz gzu gy gyu gk (by have := hok2.len; rw [psh_H] at this; exact this) (kids_nat gtz gz gzu) (kids_nat gty gy gyu) true HOKK.out.nd (by have := HOKK.out.np; simp only [List.length_cons] at this; omega)
        have HPK := Lib.hid hpk; have HSTP := Lib.hid hstp; have HSO5 := Lib.hid hso; have HML := Lib.hid hml; have HLL := Lib.hid hll; have HBL := Lib.hid hbl; have HKW2 := Lib.hid hkw; have HG5 := Lib.hid hgj5; have HK12 := Lib.hid (And.intro hk1 hk2)
        clear hpk hstp hso hml hll hbl hkw hgj5 hk hwk hg5 hk1 hk2 hin hbec ha3 hm3 hsv gz gzu gy gyu gk gtz gty hj2 hok2 hlk
        go_wp2_with fail
        refine HPK.out.mono ?_
        clear HPK
        rintro e w11 ⟨oa', oc', ⟨v, rfl⟩, hsv, hk, h⟩
        have hwk := psh_wk h
        have hnx := HII.out.next HST.out HSTP.out hwk (by rw [psh_H]; exact hsv) (by rw [psh_H]; exact HML.out) (by rw [psh_H]; exact HSO5.out) ((HKW.out _ HKW2.out).trans (hk.mono (Nat.le_refl _) (fun i hi h => by have hg := HG5.out; rcases hg with hg | hg; exact .inr (h.trans hg); omega))) HG5.out (by have := HK12.out; omega) (by have := HK12.out; omega) (by rw [psh_H]; dsimp only; rw [HLL.out]; exact HBL.out)
        have HNX := Lib.hid hnx
        clear hnx hwk hk hsv h
        go_wp2_with fail
        go_roundg (μ (psh lkH Q D1 z y true))
        case measure => exact HNX.out.2
        case rel => exact ⟨_, _, _, _, _, _, _, _, rfl, rfl, rfl, HNX.out.1, rfl⟩
    have hb6 : (kx == 6) = false := by simp [h6]
    have H6 := Lib.hid h6
    clear h6
    by_cases h6y : ky = 6
    · have hb6y : (ky == 6) = true := by simp [h6y]
      have H6Y := Lib.hid h6y
      clear h6y
      have hok := HOKK.out
      have hlen := hok.len; have hroo := hok.room; have hge := HII.out.ge
      dsimp only at hlen hroo hge
      have hbdj : Bds L (C + ((H1.length : Int) - (H.length : Int))) H1 := by
        obtain ⟨q1, q2, q3, q4⟩ := HBD.out
        have := HROOM.out
        exact ⟨by omega, by omega, q3, by omega⟩
      have hbc := become13_any HW9.out S9.out HII.out.met ⟨by have := HII.out.k0; have := HK.out; omega, by have := HII.out.k1; have := HKM.out; omega⟩ hbdj HII.out.so hlen (by have := HROOM.out; omega) HAY3.out HAY4.out (by rw [HKY.out]; exact H6Y.out) (hok.lev _ _ HAY3.out) HAX3.out HAX4.out (by rw [HKX.out]; exact H5.out) HDX.out HSX.out HNE.out p.fr (fun e => by have h9 := HOKK.out.fry p Q tx rfl e (by dsimp only; rw [HY.out, HKDY.out]; exact H6Y.out) (by dsimp only; rw [HX.out]; exact HDX.out) (by dsimp only; rw [HX.out, HY.out]; exact HNE.out); dsimp only at h9; rw [HX.out, HY.out] at h9; exact h9)
      have p2 : w9.cell? ⟨pb, 2, none⟩ = some (.bool p.fr) := cell_box HP9.out rfl rfl
      have HBC := Lib.hid hbc
      clear hbc hok hlen hroo hge hbdj
      go_wp2_with fail
      refine HBC.out.mono ?_
      clear HBC p2
      rintro e w10 ⟨g5, cap5, S5, ns5, K5, ⟨hk1, hk2⟩, hk, hg5, hwk, h⟩
      have hkw : Kp wr.heap.size (fun i => i = s ∨ i = gj ∨ w.heap.size ≤ i) wr w10 := K9.out.trans (hk.mono K9.out.size (fun i _ h => by rcases h with h | h | h; exact .inl h; exact .inr (.inl h); exact .inr (.inr (by rw [h]; exact HII.out.wk.lc))))
      have hgj5 : g5 = g ∨ w.heap.size ≤ g5 := by have := HII.out.gj; have := HGE.out; omega
      by_cases hin : y ∈ trav H1 tx x []
      · rw [if_pos hin] at h
        obtain ⟨z, H2, rfl, ha2, hsv, hm2⟩ := h
        have HIN := Lib.hid hin; have S10 := Lib.hid hsv; have HA2 := Lib.hid ha2; have HM2 := Lib.hid hm2; have HKW2 := Lib.hid hkw; have HG5 := Lib.hid hgj5; have HK12 := Lib.hid (And.intro hk1 hk2)
        clear hin hsv ha2 hm2 hkw hgj5 hk hwk hg5 hk1 hk2
        go_wp2_with fail
        (try rw [Exit.noGoto_ret])
        refine bodyPost_ret (v := .tuple #[.int .i64 0, .int .i64 0, .int .i64 5]) (by simp [results, Try.f35, go_sem]) rfl ?_
        have hk0 := HII.out.k0; have hk1 := HII.out.k1; have hkk := HK12.out
        have hmu : 1 ≤ μ ⟨H1, p :: Q, D1⟩ := HMU.out
        exact ⟨0, 0, 5, ⟨H1, p :: Q, D1⟩, H2, g5, cap5, K5, rfl, by omega, by omega, HII.out.j, HA2.out, by rw [← HA2.out.len]; exact S10.out, HM2.out, HKW.out _ HKW2.out, HG5.out, .inr (Bad.loopR (H := H1) (p := p) (Q := Q) (D := D1) HX.out HY.out HNE.out (by rw [HKDX.out]; exact H6.out) (by rw [HKDX.out]; exact H5.out) (by rw [HKDY.out]; exact H6Y.out) HDX.out HIN.out)⟩
      · rw [if_neg hin] at h
        obtain ⟨Hb, H3, z, u, rfl, hbec, ha3, hm3, hsv, hso⟩ := h
        have HIN := Lib.hid hin
        obtain ⟨dz, dn, gz, gzu, gy, gyu, gk, ⟨tz, gtz⟩, ⟨tn, gty⟩⟩ := bec_kids (vs := varsOf Hb (trav Hb u z [])) (lv := ry.c.level) hbec ha3 HAY3.out HAY4.out (by rw [HKY.out]; exact H6Y.out) HAX3.out HAX4.out (by rw [HKX.out]; exact H5.out) HNE.out HDX.out hin
        have hstp := Stp.varR (H := H1) (p := p) (Q := Q) (D := D1) HX.out HY.out HNE.out (by rw [HKDX.out]; exact H6.out) (by rw [HKDX.out]; exact H5.out) (by rw [HKDY.out]; exact H6Y.out) HDX.out HIN.out (by rw [kd_of HAX3.out, lvl_of HAY3.out]; exact hbec) ha3
        rw [lvl_of HAY3.out] at hstp
        have hbl : H1.length ≤ Hb.length := by
          rcases hbec with ⟨_, e, _⟩ | ⟨_, e, _⟩
          · rw [e]; exact Nat.le_refl _
          · rw [e, likeH_len]; omega
        obtain ⟨lkH, hlk⟩ : ∃ q, lnk H3 (varsOf Hb (trav Hb u z [])) ry.c.level y z = q := ⟨_, rfl⟩
        have hll : lkH.length = Hb.length := by rw [← hlk, lnk_len, ← ha3.len]
        have hml : ∀ d ∈ lkH, d.c.met ≤ K5 := by rw [← hlk]; exact Sg.link_met (lows_met hm3 _ _)
        rw [hlk] at gz gy gtz gty hstp hsv hso
        obtain ⟨hj2, _⟩ := HST.out _ _ HII.out.j hstp
        have hok2 := HOK.out _ hj2
        rw [show C + ((H1.length : Int) - (H.length : Int)) + ((Hb.length : Int) - (H1.length : Int)) = C + ((lkH.length : Int) - (H.length : Int)) from by rw [hll]; omega] at hsv
        have hpk := pushKids13_any hwk hsv (by have := hk.size; have := HGE.out; omega) HF.out.2.2.1 gy gyu gz gzu gk.symm (by have := hok2.len; rw [psh_H] at this; exact this) (kids_nat gty gy gyu) (kids_nat gtz gz gzu) true HOKK.out.nd (by have := HOKK.out.np; simp only [List.length_cons] at this; omega)
        have HPK := Lib.hid hpk; have HSTP := Lib.hid hstp; have HSO5 := Lib.hid hso; have HML := Lib.hid hml; have HLL := Lib.hid hll; have HBL := Lib.hid hbl; have HKW2 := Lib.hid hkw; have HG5 := Lib.hid hgj5; have HK12 := Lib.hid (And.intro hk1 hk2)
        clear hpk hstp hso hml hll hbl hkw hgj5 hk hwk hg5 hk1 hk2 hin hbec ha3 hm3 hsv gz gzu gy gyu gk gtz gty hj2 hok2 hlk
        go_wp2_with fail
        refine HPK.out.mono ?_
        clear HPK
        rintro e w11 ⟨oa', oc', ⟨v, rfl⟩, hsv, hk, h⟩
        have hwk := psh_wk h
        have hnx := HII.out.next HST.out HSTP.out hwk (by rw [psh_H]; exact hsv) (by rw [psh_H]; exact HML.out) (by rw [psh_H]; exact HSO5.out) ((HKW.out _ HKW2.out).trans (hk.mono (Nat.le_refl _) (fun i hi h => by have hg := HG5.out; rcases hg with hg | hg; exact .inr (h.trans hg); omega))) HG5.out (by have := HK12.out; omega) (by have := HK12.out; omega) (by rw [psh_H]; dsimp only; rw [HLL.out]; exact HBL.out)
        have HNX := Lib.hid hnx
        clear hnx hwk hk hsv h
        go_wp2_with fail
        go_roundg (μ (psh lkH Q D1 x z true))
        case measure => exact HNX.out.2
        case rel => exact ⟨_, _, _, _, _, _, _, _, rfl, rfl, rfl, HNX.out.1, rfl⟩
    have hb6y : (ky == 6) = false := by simp [h6y]
    have H6Y := Lib.hid h6y
    clear h6y
    by_cases hkk : kx = ky
    · have hbk : (kx != ky) = false := by simp [hkk]
      have hok := HOKK.out
      have hpk := pushKids13_any HW9.out S9.out (by have := HGE.out; omega) HF.out.2.2.1 HAX3.out HAX4.out HAY3.out HAY4.out (by rw [HKX.out, HKY.out]; exact hkk) hok.len (kids_nat HDX.out HAX3.out HAX4.out) (kids_nat HDY.out HAY3.out HAY4.out) false hok.nd (by have := hok.np; simp only [List.length_cons] at this; omega)
      have HPK := Lib.hid hpk; have HKK := Lib.hid hkk
      clear hpk hkk hok
      go_wp2_with fail
      refine HPK.out.mono ?_
      clear HPK
      rintro e w10 ⟨oa', oc', ⟨v, rfl⟩, hsv, hk, h⟩
      have hwk := psh_wk h
      have hnx := HII.out.next HST.out (Stp.dec (H := H1) (p := p) (Q := Q) (D := D1) HX.out HY.out HNE.out (by rw [HKDX.out]; exact H5.out) (by rw [HKDX.out]; exact H6.out) (by rw [HKDX.out, HKDY.out]; exact HKK.out)) hwk (by rw [psh_H]; exact hsv) (by rw [psh_H]; exact HII.out.met) (by rw [psh_H]; exact HII.out.so) ((HKW.out _ K9.out).trans (hk.mono (Nat.le_refl _) (fun i hi h => by have hg := HII.out.gj; rcases hg with hg | hg; exact .inr (h.trans hg); omega))) HII.out.gj (Int.le_refl _) (by omega) (by rw [psh_H]; exact Nat.le_refl _)
      have HNX := Lib.hid hnx
      clear hnx hwk hk hsv h
      go_wp2_with fail
      go_roundg (μ (psh H1 Q D1 x y false))
      case measure => exact HNX.out.2
      case rel => exact ⟨_, _, _, _, _, _, _, _, rfl, rfl, rfl, HNX.out.1, rfl⟩
    · have hbk : (kx != ky) = true := by simp [hkk]
      have HKK := Lib.hid hkk
      clear hkk
      go_wp2_with fail
      (try rw [Exit.noGoto_ret])
      refine bodyPost_ret (v := .tuple #[.int .i64 kx, .int .i64 ky, .int .i64 4]) (by simp [results, Try.f35, go_sem]) rfl ?_
      have hk1 := HII.out.k1
      have hbad : Bad ⟨H1, p :: Q, D1⟩ kx ky 4 := by
        have h9 := Bad.clash (H := H1) (p := p) (Q := Q) (D := D1) HX.out HY.out HNE.out (by rw [HKDX.out]; exact H5.out) (by rw [HKDY.out]; exact H5Y.out) (by rw [HKDX.out]; exact H6.out) (by rw [HKDY.out]; exact H6Y.out) (by rw [HKDX.out, HKDY.out]; exact HKK.out)
        rw [HKDX.out, HKDY.out] at h9; exact h9
      exact ⟨kx, ky, 4, ⟨H1, p :: Q, D1⟩, H1, gj, cj, Kj, rfl, HII.out.k0, by omega, HII.out.j, Alk.refl _, S9.out, HII.out.met, HKW.out _ K9.out, HII.out.gj, .inr hbad⟩
end
end Go.Proofs.Yteolbbgnkbcfmaa

/- The sample's states. -/
import Derived.Test.YteolbbgnkbcfmaaSvL
namespace Go.Proofs.Yteolbbgnkbcfmaa
open Go Go.RowKit
open Tp (T)
open Sg (Of Rt Den Dens Alk Mkd trav travs rootOf kidsOf)
/-- A state of known nodes is fit for a round. -/
theorem wok_of {X H : List SNd} {P : List Pr} {D : List (Nat × Nat)} {Lim : Nat} (ha : Alk X H) (n : Nat) (h1 : (List.range X.length).all (fun p => denB X n p && decide (Tp.size (treeF X n p) ≤ 1000)) = true) (h2 : X.all (fun d => decide (0 ≤ d.c.level)) = true) (h3 : X.length ≤ 1000) (h4 : D.length ≤ 1000) (h5 : P.length ≤ 1000) (h6 : P.all (fun p => decide (p.x < X.length) && decide (p.y < X.length)) = true)
    (h7 : ∀ p Q t, P = p :: Q → p.fr = true → kd H (rootOf H p.x) = 6 → Den H t (rootOf H p.y) → rootOf H p.x ≠ rootOf H p.y → ¬ rootOf H p.x ∈ trav H t (rootOf H p.y) [])
    (h8 : ∀ p Q t, P = p :: Q → p.fr = true → kd H (rootOf H p.y) = 6 → Den H t (rootOf H p.x) → rootOf H p.x ≠ rootOf H p.y → ¬ rootOf H p.y ∈ trav H t (rootOf H p.x) [])
    (h9 : X.length + 3 ≤ Lim) : WOk Lim ⟨H, P, D⟩ := by
  have hl := ha.len
  have hin : ∀ p ∈ P, p.x < X.length ∧ p.y < X.length := fun p hp => by
    rw [List.all_eq_true] at h6
    have h := h6 p hp
    simp only [Bool.and_eq_true, decide_eq_true_eq] at h
    exact h
  have hde : ∀ p, p < X.length → ∃ t, Den H t p ∧ Tp.size t ≤ 1000000 := fun p hp => by
    rw [List.all_eq_true] at h1
    have h := h1 p (List.mem_range.2 hp)
    simp only [Bool.and_eq_true, decide_eq_true_eq] at h
    exact ⟨_, (denB_den h.1).alk ha, by omega⟩
  refine ⟨fun p hp => ⟨hde _ (hin p hp).1, hde _ (hin p hp).2⟩, fun r d hd => ?_, by dsimp only; omega, by dsimp only; omega, by dsimp only; omega, fun p hp => ?_, h7, h8, by dsimp only; omega⟩
  · obtain ⟨e, q1, q2⟩ := bare_get ha.symm hd
    rw [List.all_eq_true] at h2
    have h := h2 e (List.mem_of_getElem? q1)
    rw [← (bare_parts q2).2.2.1]
    exact of_decide_eq_true h
  · have := hin p hp; exact ⟨by dsimp only; omega, by dsimp only; omega⟩
def Sx0 : List SNd := lvs 5 ++ [⟨⟨6, 2, 0, 0, 0⟩, 5⟩, ⟨⟨9, 0, 4, 0, 0⟩, 6⟩]
def Sx1 : List SNd := lnk (likeH Sx0 9 2) [7, 8] 2 5 9
def Sx2 : List SNd := lows Sx1 [7] 0
def Sx3 : List SNd := lnk Sx2 [] 2 8 0
def J13 (σ : Wrk) : Prop :=
  (Alk Sx0 σ.H ∧ σ.P = [⟨5, 6, false⟩] ∧ σ.D = []) ∨ (Alk Sx1 σ.H ∧ σ.P = [⟨7, 4, true⟩, ⟨8, 0, true⟩] ∧ σ.D = [(9, 6)]) ∨ (Alk Sx2 σ.H ∧ σ.P = [⟨8, 0, true⟩] ∧ σ.D = [(9, 6)]) ∨ (Alk Sx3 σ.H ∧ σ.P = [] ∧ σ.D = [(9, 6)])
def μ13 (σ : Wrk) : Nat := σ.P.length + (if σ.D.isEmpty then 2 else 0)
theorem j13_ok (σ : Wrk) (h : J13 σ) : WOk 13 σ := by
  obtain ⟨H, P, D⟩ := σ
  rcases h with ⟨ha, hp, hd⟩ | ⟨ha, hp, hd⟩ | ⟨ha, hp, hd⟩ | ⟨ha, hp, hd⟩
  · dsimp only at ha hp hd
    subst hp hd
    exact wok_of ha 4 (by kernel_rfl) (by kernel_rfl) (by decide) (by decide) (by decide) (by kernel_rfl) (fun p Q t e hf => by injection e with e _; subst e; cases hf) (fun p Q t e hf => by injection e with e _; subst e; cases hf) (by decide)
  · dsimp only at ha hp hd
    subst hp hd
    have r7 : rootOf H 7 = 7 := (ha.root 7).symm.trans (by kernel_rfl)
    have r4 : rootOf H 4 = 4 := (ha.root 4).symm.trans (by kernel_rfl)
    have k4 : kd H 4 = 5 := (kd_alk ha 4).symm.trans (by kernel_rfl)
    refine wok_of ha 4 (by kernel_rfl) (by kernel_rfl) (by decide) (by decide) (by decide) (by kernel_rfl) (fun p Q t e hf hk hD hne => ?_) (fun p Q t e hf hk => ?_) (by decide)
    · injection e with e _; subst e
      dsimp only at hk hD hne ⊢
      rw [r7, r4] at *
      have ht : t = treeF Sx1 4 4 := hD.det ((denB_den (H := Sx1) (n := 4) (p := 4) (by kernel_rfl)).alk ha) rfl
      rw [ht, ← trav_alk ha, show trav Sx1 (treeF Sx1 4 4) 4 [] = [4] from by kernel_rfl]
      decide
    · injection e with e _; subst e
      dsimp only at hk
      rw [r4, k4] at hk
      exact absurd hk (by decide)
  · dsimp only at ha hp hd
    subst hp hd
    have r8 : rootOf H 8 = 8 := (ha.root 8).symm.trans (by kernel_rfl)
    have r0 : rootOf H 0 = 0 := (ha.root 0).symm.trans (by kernel_rfl)
    have k0 : kd H 0 = 1 := (kd_alk ha 0).symm.trans (by kernel_rfl)
    refine wok_of ha 4 (by kernel_rfl) (by kernel_rfl) (by decide) (by decide) (by decide) (by kernel_rfl) (fun p Q t e hf hk hD hne => ?_) (fun p Q t e hf hk => ?_) (by decide)
    · injection e with e _; subst e
      dsimp only at hk hD hne ⊢
      rw [r8, r0] at *
      have ht : t = treeF Sx2 4 0 := hD.det ((denB_den (H := Sx2) (n := 4) (p := 0) (by kernel_rfl)).alk ha) rfl
      rw [ht, ← trav_alk ha, show trav Sx2 (treeF Sx2 4 0) 0 [] = [0] from by kernel_rfl]
      decide
    · injection e with e _; subst e
      dsimp only at hk
      rw [r0, k0] at hk
      exact absurd hk (by decide)
  · dsimp only at ha hp hd
    subst hp hd
    exact wok_of ha 4 (by kernel_rfl) (by kernel_rfl) (by decide) (by decide) (by decide) (by kernel_rfl) (fun p Q t e hf => by cases e) (fun p Q t e hf => by cases e) (by decide)
theorem j13_step (σ σ' : Wrk) (h : J13 σ) (hs : Stp σ σ') : J13 σ' ∧ μ13 σ' < μ13 σ := by
  obtain ⟨H, P, D⟩ := σ
  rcases h with ⟨ha, hp, hd⟩ | ⟨ha, hp, hd⟩ | ⟨ha, hp, hd⟩ | ⟨ha, hp, hd⟩
  · dsimp only at ha hp hd
    subst hp hd
    have r5 : rootOf H 5 = 5 := (ha.root 5).symm.trans (by kernel_rfl)
    have r6 : rootOf H 6 = 6 := (ha.root 6).symm.trans (by kernel_rfl)
    have k5 : kd H 5 = 6 := (kd_alk ha 5).symm.trans (by kernel_rfl)
    have k6 : kd H 6 = 9 := (kd_alk ha 6).symm.trans (by kernel_rfl)
    have l5 : lvl H 5 = 2 := (lvl_alk ha 5).symm.trans (by kernel_rfl)
    have hlen : H.length = 7 := ha.len.symm
    rcases hs.inv r5 r6 with ⟨h, _⟩ | ⟨_, ⟨h, _⟩ | ⟨_, h, _⟩ | ⟨_, _, t, u, Hb, H3, z, hD, _, hb, ha3, e⟩ | ⟨h, _⟩ | ⟨_, h, _⟩⟩
    · exact absurd h (by decide)
    · rw [k5] at h; exact absurd h (by decide)
    · rw [k6] at h; exact absurd h (by decide)
    · have ht : t = treeF Sx0 4 6 := hD.det ((denB_den (H := Sx0) (n := 4) (p := 6) (by kernel_rfl)).alk ha) rfl
      subst ht
      rw [k6, l5] at hb
      rw [l5] at e
      rcases hb with ⟨h, _⟩ | ⟨_, rfl, rfl, rfl⟩
      · rw [show Tp.without 5 (treeF Sx0 4 6) = false from by kernel_rfl] at h; cases h
      · have hal := likeH_alk ha 9 2
        rw [hlen] at e
        rw [← varsOf_alk hal, ← trav_alk hal, show varsOf (likeH Sx0 9 2) (trav (likeH Sx0 9 2) (shell 9 7) (7 + ar 9) []) = [7, 8] from by kernel_rfl, show 7 + ar 9 = 9 from by kernel_rfl] at e
        have hA := lnk_alk (hal.trans ha3) [7, 8] 2 5 9
        obtain ⟨H', hH'⟩ : ∃ q, lnk H3 [7, 8] 2 5 9 = q := ⟨_, rfl⟩
        rw [hH'] at e hA
        have hA : Alk Sx1 H' := hA
        have e9 : kdN H' 9 = [7, 8] := (kdN_alk hA 9).symm.trans (by kernel_rfl)
        have e6 : kdN H' 6 = [4, 0] := (kdN_alk hA 6).symm.trans (by kernel_rfl)
        unfold psh at e
        rw [if_neg (by simp), e9, e6] at e
        subst e
        exact ⟨.inr (.inl ⟨hA, rfl, rfl⟩), by simp [μ13, pks]⟩
    · rw [k5] at h; exact absurd rfl h
    · rw [k5] at h; exact absurd rfl h
  · dsimp only at ha hp hd
    subst hp hd
    have r7 : rootOf H 7 = 7 := (ha.root 7).symm.trans (by kernel_rfl)
    have r4 : rootOf H 4 = 4 := (ha.root 4).symm.trans (by kernel_rfl)
    have k7 : kd H 7 = 6 := (kd_alk ha 7).symm.trans (by kernel_rfl)
    have k4 : kd H 4 = 5 := (kd_alk ha 4).symm.trans (by kernel_rfl)
    rcases hs.inv r7 r4 with ⟨h, _⟩ | ⟨_, ⟨h, _⟩ | ⟨_, _, t, H2, hD, ha2, e⟩ | ⟨_, h, _⟩ | ⟨h, _⟩ | ⟨_, h, _⟩⟩
    · exact absurd h (by decide)
    · rw [k7] at h; exact absurd h (by decide)
    · have ht : t = treeF Sx1 4 7 := hD.det ((denB_den (H := Sx1) (n := 4) (p := 7) (by kernel_rfl)).alk ha) rfl
      subst ht
      rw [← varsOf_alk ha, ← trav_alk ha, show varsOf Sx1 (trav Sx1 (treeF Sx1 4 7) 7 []) = [7] from by kernel_rfl] at e
      subst e
      exact ⟨.inr (.inr (.inl ⟨lows_alk 0 [7] (ha.trans ha2), rfl, rfl⟩)), by simp [μ13]⟩
    · rw [k4] at h; exact absurd rfl h
    · rw [k7] at h; exact absurd rfl h
    · rw [k7] at h; exact absurd rfl h
  · dsimp only at ha hp hd
    subst hp hd
    have r8 : rootOf H 8 = 8 := (ha.root 8).symm.trans (by kernel_rfl)
    have r0 : rootOf H 0 = 0 := (ha.root 0).symm.trans (by kernel_rfl)
    have k8 : kd H 8 = 6 := (kd_alk ha 8).symm.trans (by kernel_rfl)
    have k0 : kd H 0 = 1 := (kd_alk ha 0).symm.trans (by kernel_rfl)
    have l8 : lvl H 8 = 2 := (lvl_alk ha 8).symm.trans (by kernel_rfl)
    rcases hs.inv r8 r0 with ⟨h, _⟩ | ⟨_, ⟨h, _⟩ | ⟨_, h, _⟩ | ⟨_, _, t, u, Hb, H3, z, hD, _, hb, ha3, e⟩ | ⟨h, _⟩ | ⟨_, h, _⟩⟩
    · exact absurd h (by decide)
    · rw [k8] at h; exact absurd h (by decide)
    · rw [k0] at h; exact absurd h (by decide)
    · have ht : t = treeF Sx2 4 0 := hD.det ((denB_den (H := Sx2) (n := 4) (p := 0) (by kernel_rfl)).alk ha) rfl
      subst ht
      rw [l8] at e
      rcases hb with ⟨_, rfl, rfl, rfl⟩ | ⟨h, _⟩
      · rw [← varsOf_alk ha, ← trav_alk ha, show varsOf Sx2 (trav Sx2 (treeF Sx2 4 0) 0 []) = [] from by kernel_rfl] at e
        unfold psh at e
        rw [if_pos (.inr rfl)] at e
        subst e
        exact ⟨.inr (.inr (.inr ⟨lnk_alk (ha.trans ha3) [] 2 8 0, rfl, rfl⟩)), by simp [μ13]⟩
      · rw [show Tp.without 5 (treeF Sx2 4 0) = true from by kernel_rfl] at h; cases h
    · rw [k8] at h; exact absurd rfl h
    · rw [k8] at h; exact absurd rfl h
  · dsimp only at ha hp hd
    subst hp hd
    cases hs
theorem j13_bad (σ : Wrk) (h : J13 σ) (l r e : Int) : ¬ Bad σ l r e := fun hb => by
  obtain ⟨H, P, D⟩ := σ
  rcases h with ⟨ha, hp, hd⟩ | ⟨ha, hp, hd⟩ | ⟨ha, hp, hd⟩ | ⟨ha, hp, hd⟩
  · dsimp only at ha hp hd
    subst hp hd
    have r5 : rootOf H 5 = 5 := (ha.root 5).symm.trans (by kernel_rfl)
    have r6 : rootOf H 6 = 6 := (ha.root 6).symm.trans (by kernel_rfl)
    have k5 : kd H 5 = 6 := (kd_alk ha 5).symm.trans (by kernel_rfl)
    obtain ⟨_, ⟨_, _, h, _⟩ | ⟨_, _, _, _, _, t, hD, hin⟩ | ⟨h, _⟩⟩ := hb.inv r5 r6
    · rw [k5] at h; exact absurd rfl h
    · have ht : t = treeF Sx0 4 6 := hD.det ((denB_den (H := Sx0) (n := 4) (p := 6) (by kernel_rfl)).alk ha) rfl
      rw [ht, ← trav_alk ha, show trav Sx0 (treeF Sx0 4 6) 6 [] = [4, 0, 6] from by kernel_rfl] at hin
      exact absurd hin (by decide)
    · rw [k5] at h; exact absurd rfl h
  · dsimp only at ha hp hd
    subst hp hd
    have r7 : rootOf H 7 = 7 := (ha.root 7).symm.trans (by kernel_rfl)
    have r4 : rootOf H 4 = 4 := (ha.root 4).symm.trans (by kernel_rfl)
    have k7 : kd H 7 = 6 := (kd_alk ha 7).symm.trans (by kernel_rfl)
    have k4 : kd H 4 = 5 := (kd_alk ha 4).symm.trans (by kernel_rfl)
    obtain ⟨_, ⟨_, h, _⟩ | ⟨_, h, _⟩ | ⟨h, _⟩⟩ := hb.inv r7 r4
    · rw [k4] at h; exact absurd rfl h
    · rw [k4] at h; exact absurd rfl h
    · rw [k7] at h; exact absurd rfl h
  · dsimp only at ha hp hd
    subst hp hd
    have r8 : rootOf H 8 = 8 := (ha.root 8).symm.trans (by kernel_rfl)
    have r0 : rootOf H 0 = 0 := (ha.root 0).symm.trans (by kernel_rfl)
    have k8 : kd H 8 = 6 := (kd_alk ha 8).symm.trans (by kernel_rfl)
    obtain ⟨_, ⟨_, _, h, _⟩ | ⟨_, _, _, _, _, t, hD, hin⟩ | ⟨h, _⟩⟩ := hb.inv r8 r0
    · rw [k8] at h; exact absurd rfl h
    · have ht : t = treeF Sx2 4 0 := hD.det ((denB_den (H := Sx2) (n := 4) (p := 0) (by kernel_rfl)).alk ha) rfl
      rw [ht, ← trav_alk ha, show trav Sx2 (treeF Sx2 4 0) 0 [] = [0] from by kernel_rfl] at hin
      exact absurd hin (by decide)
    · rw [k8] at h; exact absurd rfl h
  · dsimp only at ha hp hd
    subst hp hd
    cases hb
end Go.Proofs.Yteolbbgnkbcfmaa

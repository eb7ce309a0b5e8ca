/- Stage 13's sample. -/
import Derived.Test.YteolbbgnkbcfmaaSvM
import Derived.Test.YteolbbgnkbcfmaaSuJ
namespace Go.Proofs.Yteolbbgnkbcfmaa
open Go Go.RowKit
open Tp (T)
open Sg (Of Rt Den Dens Alk Mkd trav travs rootOf kidsOf)
def tD : T := .mk 9 0 [.mk 5 0 [], .mk 1 0 []]
theorem mkp_tD : mkP X1 tD = (Sx0, 6) := by kernel_rfl
/-- The second pair of the sample. -/
def J01 (X : List SNd) (σ : Wrk) : Prop := Alk X σ.H ∧ σ.P = [⟨0, 1, false⟩] ∧ σ.D = []
theorem j01_ok {H : List SNd} (ha : Alk Sx3 H) (σ : Wrk) (h : J01 H σ) : WOk 13 σ := by
  obtain ⟨G, P, D⟩ := σ
  obtain ⟨h1, h2, h3⟩ := h
  dsimp only at h1 h2 h3
  subst h2 h3
  exact wok_of (ha.trans h1) 4 (by kernel_rfl) (by kernel_rfl) (by decide) (by decide) (by decide) (by kernel_rfl) (fun p Q t e hf => by injection e with e _; subst e; cases hf) (fun p Q t e hf => by injection e with e _; subst e; cases hf) (by decide)
theorem j01_facts {G : List SNd} (h : Alk Sx3 G) : rootOf G 0 = 0 ∧ rootOf G 1 = 1 ∧ kd G 0 = 1 ∧ kd G 1 = 2 := ⟨(h.root 0).symm.trans (by kernel_rfl), (h.root 1).symm.trans (by kernel_rfl), (kd_alk h 0).symm.trans (by kernel_rfl), (kd_alk h 1).symm.trans (by kernel_rfl)⟩
theorem j01_step {H : List SNd} (ha : Alk Sx3 H) (σ σ' : Wrk) (h : J01 H σ) (hs : Stp σ σ') : J01 H σ' ∧ (fun _ : Wrk => 1) σ' < (fun _ : Wrk => 1) σ := by
  obtain ⟨G, P, D⟩ := σ
  obtain ⟨h1, h2, h3⟩ := h
  dsimp only at h1 h2 h3
  subst h2 h3
  obtain ⟨r0, r1, k0, k1⟩ := j01_facts (ha.trans h1)
  rcases hs.inv r0 r1 with ⟨h, _⟩ | ⟨_, ⟨h, _⟩ | ⟨_, h, _⟩ | ⟨h, _⟩ | ⟨_, _, h, _⟩ | ⟨_, _, h, _⟩⟩
  · exact absurd h (by decide)
  · rw [k0] at h; exact absurd h (by decide)
  · rw [k1] at h; exact absurd h (by decide)
  · rw [k0] at h; exact absurd h (by decide)
  · rw [k1] at h; exact absurd h (by decide)
  · rw [k0, k1] at h; exact absurd h (by decide)
theorem j01_bad {H : List SNd} (ha : Alk Sx3 H) (σ : Wrk) (h : J01 H σ) {l r e : Int} (hb : Bad σ l r e) : l = 1 ∧ r = 2 ∧ e = 4 := by
  obtain ⟨G, P, D⟩ := σ
  obtain ⟨h1, h2, h3⟩ := h
  dsimp only at h1 h2 h3
  subst h2 h3
  obtain ⟨r0, r1, k0, k1⟩ := j01_facts (ha.trans h1)
  obtain ⟨_, ⟨_, _, _, _, _, hl, hr, he⟩ | ⟨h, _⟩ | ⟨_, _, h, _⟩⟩ := hb.inv r0 r1
  · exact ⟨hl.trans k0, hr.trans k1, he⟩
  · rw [k0] at h; exact absurd h (by decide)
  · rw [k1] at h; exact absurd h (by decide)
theorem j13_end (σ : Wrk) (h : J13 σ) (hp : σ.P = []) : Alk Sx3 σ.H := by
  rcases h with ⟨_, h, _⟩ | ⟨_, h, _⟩ | ⟨_, h, _⟩ | ⟨h, _⟩
  · rw [hp] at h; cases h
  · rw [hp] at h; cases h
  · rw [hp] at h; cases h
  · exact h
set_option maxRecDepth 100000 in
set_option maxHeartbeats 8000000 in
theorem wakes13_any (w : World) : Calls Try.prog 34 #[] w fun e w' => e = .returned (.bool true) ∧ Below w.heap.size w w' := by
  go_enter Try.func34, Try.ntmps34
  go_wp2_with fail
  refine (new12_any 50 w).mono ?_
  rintro e w1 ⟨g1, cap1, rfl, hsv, hb⟩
  rw [show min (max (50 : Int) 0) 65536 = 50 from by decide] at hsv
  have S1 := Lib.hid hsv; have B1 := Lib.hid hb; clear hsv hb
  go_wp2_with fail
  have hV : Calls Try.prog 24 #[.pointer (some ⟨w.heap.size, 0, none⟩), .int .i64 2] w1 fun e w' => e = .returned (.tuple #[.int .i64 5, .int .i64 0]) ∧ AddP w.heap.size w.heap.size g1 50 0 0 (lvs 5) ⟨6, 2, 0, 0, 0⟩ w1 w' := var12_any S1.out ⟨by decide, by decide, by decide, by decide⟩ 2 (by decide) (by decide)
  refine hV.mono ?_
  clear hV
  rintro e w2 ⟨rfl, g2, cap2, hsv, hk, -⟩
  have S2 := Lib.hid (show SV w.heap.size w.heap.size g2 cap2 50 1 0 w2 X1 from hsv)
  have B2 := Lib.hid (kp_low B1.out (Nat.le_refl _) (Nat.le_refl _) S1.out.far.1 hk)
  clear hsv hk
  go_wp2_with fail
  refine (leaf_any 5 w2).mono ?_
  rintro e w3 ⟨rfl, hb⟩
  have S3 := Lib.hid (S2.out.below hb); have B3 := Lib.hid (B2.out.trans (hb.mono B2.out.size))
  clear hb
  go_wp2_with fail
  refine (leaf_any 1 w3).mono ?_
  rintro e w4 ⟨rfl, hb⟩
  have S4 := Lib.hid (S3.out.below hb); have B4 := Lib.hid (B3.out.trans (hb.mono B3.out.size))
  clear hb
  go_wp2_with fail
  refine (two_any 9 (by unfold I64; decide) (.mk 5 0 []) 5 0 0 none 0 (.mk 1 0 []) 1 0 0 none 0 w4 ⟨rfl, rfl, rfl⟩ ⟨rfl, rfl, rfl⟩ (leaf_at (by unfold I64; decide)) (leaf_at (by unfold I64; decide))).mono ?_
  rintro e w5 ⟨gt, rfl, hty, hb⟩
  have S5 := Lib.hid (S4.out.below hb); have B5 := Lib.hid (B4.out.trans (hb.mono B4.out.size))
  have HTY := Lib.hid hty
  clear hb hty
  go_wp2_with fail
  have hP : Calls Try.prog 49 #[.pointer (some ⟨w.heap.size, 0, none⟩), .agg #[.int .i64 9, .int .i64 0, .slice (some ⟨gt, 0, none⟩) 2 2]] w5 fun e w' => Kp w5.heap.size (fun k => k = w.heap.size ∨ k = g2) w5 w' ∧ ∃ g' cap', e = .returned (.tuple #[.int .i64 6, .int .i64 0]) ∧ SV w.heap.size w.heap.size g' cap' 50 2 0 w' Sx0 ∧ (g' = g2 ∨ w5.heap.size ≤ g') :=
    (put12_anyW S5.out ⟨by decide, by decide, by decide, by decide⟩ tD (some ⟨gt, 0, none⟩) 2 w5.heap.size (by decide) (Nat.le_refl _) (B5.out.size) HTY.out).mono (fun e w' h => by
      obtain ⟨hk, h⟩ := h
      rw [if_pos ⟨by kernel_rfl, by kernel_rfl⟩, if_pos (by rw [show inner tD = 1 from by kernel_rfl]; decide), mkp_tD] at h
      exact ⟨hk, h⟩)
  refine hP.mono ?_
  clear hP
  rintro e w6 ⟨hk, g6, cap6, rfl, hsv, hg6⟩
  have S6 := Lib.hid hsv
  have B6 := Lib.hid (kp_low B5.out (Nat.le_refl _) (Nat.le_refl _) S5.out.far.1 hk)
  clear hk hsv hg6
  go_wp2_with fail
  have hA : Calls Try.prog 35 #[.pointer (some ⟨w.heap.size, 0, none⟩), .int .i64 5, .int .i64 6] w6 (AgP w.heap.size w.heap.size g6 50 2 0 Sx0 J13 3 w6) :=
    agree13_any J13 μ13 13 j13_ok j13_step S6.out (by decide) (by decide) ⟨by decide, by decide, by decide, by decide⟩ (by decide) (a := 5) (b := 6) (.inl ⟨Alk.refl _, rfl, rfl⟩) rfl (by decide) (fun σ _ hne => by
      have : 0 < σ.P.length := List.length_pos_iff.2 hne
      unfold μ13; omega)
  refine hA.mono ?_
  clear hA
  rintro e w7 ⟨l, r, er, σ, H7, g7, cap7, K7, rfl, hk0, hk1, hj, hal, hsv, hmet, hk, hg7, h⟩
  have hal7 : Alk Sx3 H7 ∧ l = 0 ∧ r = 0 ∧ er = 0 := by
    rcases h with ⟨h1, h2, h3, h4, h5⟩ | h
    · exact ⟨by rw [h5]; exact j13_end σ hj h4, h1, h2, h3⟩
    · exact absurd h (j13_bad σ hj l r er)
  obtain ⟨hal7, rfl, rfl, rfl⟩ := hal7
  have hl7 : H7.length = 10 := hal7.len.symm
  have hsv7 : SV w.heap.size w.heap.size g7 cap7 50 5 K7 w7 H7 := by
    rw [hl7] at hsv; exact hsv
  have S7 := Lib.hid hsv7; have HA7 := Lib.hid hal7; have HM7 := Lib.hid hmet; have HK7 := Lib.hid (show 0 ≤ K7 ∧ K7 ≤ 9 from ⟨hk0, by have : ((3 : Nat) : Int) = 3 := rfl; omega⟩)
  have B7 := Lib.hid (kp_low B6.out (Nat.le_refl _) (Nat.le_refl _) S6.out.far.1 hk)
  clear hk hsv hsv7 hg7 h hj hal hmet hk0 hk1 hal7
  obtain ⟨d5, q51, q52, q53, q54, _⟩ := HA7.out.get (show Sx3[5]? = some ⟨⟨6, 2, 0, 0, 0⟩, 9⟩ from by kernel_rfl)
  obtain ⟨d9, q91, q92, q93, _, q9a, q9b⟩ := HA7.out.get (show Sx3[9]? = some ⟨⟨9, 0, 7, 8, 0⟩, 9⟩ from by kernel_rfl)
  obtain ⟨d7, q71, q72, q73, q74, _⟩ := HA7.out.get (show Sx3[7]? = some ⟨⟨6, 0, 0, 0, 0⟩, 7⟩ from by kernel_rfl)
  obtain ⟨d8, q81, q82, _⟩ := HA7.out.get (show Sx3[8]? = some ⟨⟨6, 2, 0, 0, 0⟩, 0⟩ from by kernel_rfl)
  have Q5 := Lib.hid q51; have Q5U := Lib.hid (show d5.up = 9 from q52); have Q9 := Lib.hid q91; have Q9U := Lib.hid (show d9.up = 9 from q92); have Q9K := Lib.hid (show d9.c.kind = 9 from q93); have Q9A := Lib.hid (show d9.c.a = 7 from q9a); have Q9B := Lib.hid (show d9.c.b = 8 from q9b); have Q7 := Lib.hid q71; have Q7U := Lib.hid (show d7.up = 7 from q72); have Q7K := Lib.hid (show d7.c.kind = 6 from q73); have Q7L := Lib.hid (show d7.c.level = 0 from q74); have Q8 := Lib.hid q81; have Q8U := Lib.hid (show d8.up = 0 from q82)
  clear q51 q52 q53 q54 q91 q92 q93 q9a q9b q71 q72 q73 q74 q81 q82
  go_wp2_with fail
  have hKi : Calls Try.prog 45 #[.pointer (some ⟨w.heap.size, 0, none⟩), .int .i64 5] w7 (KiP w.heap.size w.heap.size g7 cap7 50 5 K7 H7 [7, 8] w7) := by
    have h9 := skids12_any S7.out Q5.out (r := d9) (by rw [Q5U.out]; exact Q9.out)
    rw [Q9K.out, Q9A.out, Q9B.out] at h9
    exact h9
  refine hKi.mono ?_
  clear hKi
  rintro e w8 ⟨a8, c8, rfl, hir, hsv, hk⟩
  have S8 := Lib.hid hsv; have HIR := Lib.hid hir
  have B8 := Lib.hid (kp_low B7.out (Nat.le_refl _) (Nat.le_refl _) S7.out.far.1 (hk.mono (M' := fun k => k = w.heap.size ∨ k = g7) (Nat.le_refl _) (fun _ _ h => .inr h)))
  have HZ78 := Lib.hid hk.size
  clear hsv hk hir
  go_wp2_with fail
  have hA : Calls Try.prog 35 #[.pointer (some ⟨w.heap.size, 0, none⟩), .int .i64 0, .int .i64 1] w8 (AgP w.heap.size w.heap.size g7 50 5 K7 H7 (J01 H7) 1 w8) :=
    agree13_any (J01 H7) (fun _ => 1) 13 (j01_ok HA7.out) (j01_step HA7.out) S8.out HM7.out HK7.out.1 ⟨by decide, by decide, by decide, by rw [hl7]; decide⟩ (by rw [hl7]; decide) (a := 0) (b := 1) ⟨Alk.refl _, rfl, rfl⟩ rfl (by have := HK7.out; omega) (fun σ _ _ => Nat.le_refl _)
  refine hA.mono ?_
  clear hA
  rintro e w9 ⟨l, r, er, σ, H9, g9, cap9, K9, rfl, hk0, hk1, hj, hal, hsv, hmet, hk, hg9, h⟩
  have hres : l = 1 ∧ r = 2 ∧ er = 4 := by
    rcases h with ⟨_, _, _, h4, _⟩ | h
    · rw [hj.2.1] at h4; cases h4
    · exact j01_bad HA7.out σ hj h
  obtain ⟨rfl, rfl, rfl⟩ := hres
  have ha9 : Alk H7 H9 := hj.1.trans hal
  have hg7 := S8.out.far
  have hir9 := HIR.out.keep (w' := w9) (fun i h1 h2 => hk.block i h2 (by have := HZ78.out; have := S7.out.far; omega)) hk.size
  have B9 := Lib.hid (kp_low B8.out (Nat.le_refl _) (Nat.le_refl _) S8.out.far.1 hk)
  have S9 := Lib.hid hsv; have HA9 := Lib.hid ha9
  obtain ⟨e0, o0, ka, kc0⟩ := hir9.1 0 (by decide)
  obtain ⟨e1, o1, ka1, kc1⟩ := hir9.1 1 (by decide)
  rw [ka] at ka1
  injection ka1 with ka1
  injection ka1 with ka1 ka2 _
  subst ka1 ka2
  have HIR9 := Lib.hid hir9.2
  subst ka
  have kc0 : w9.cell? ⟨e0, o0, none⟩ = some (.int .i64 7) := kc0
  have kc1 : w9.cell? ⟨e0, o0 + 1, none⟩ = some (.int .i64 8) := kc1
  have HE0 := Lib.hid (HIR9.out e0 o0 rfl)
  have HGN := Lib.hid (show e0 ≠ g9 by have h1 := (HIR9.out e0 o0 rfl).1; have h2 := (HIR.out.2 e0 o0 rfl).2; have h3 := S7.out.far; rcases hg9 with h | h <;> omega)
  clear hk hsv hg9 h hj hal hmet hk0 hk1 hir9 ha9 hg7
  obtain ⟨f5, p51, p52, p53, _⟩ := HA9.out.get Q5.out
  obtain ⟨f9, p91, p92, p93, _⟩ := HA9.out.get Q9.out
  obtain ⟨f7, p71, p72, p73, p74, _⟩ := HA9.out.get Q7.out
  obtain ⟨f8, p81, p82, _⟩ := HA9.out.get Q8.out
  rw [Q5U.out] at p52; rw [Q9U.out] at p92; rw [Q9K.out] at p93; rw [Q7U.out] at p72; rw [Q7K.out] at p73; rw [Q7L.out] at p74; rw [Q8U.out] at p82
  have hkd5 := fun W (hS : SV w.heap.size w.heap.size g9 cap9 50 (5 + ((H9.length : Int) - (H7.length : Int))) K9 W H9) => kind12_any hS p51 (r := f9) (by rw [p52]; exact p91)
  have hkd7 := fun W (hS : SV w.heap.size w.heap.size g9 cap9 50 (5 + ((H9.length : Int) - (H7.length : Int))) K9 W H9) => kind12_any hS p71 (r := f7) (by rw [p72]; exact p71)
  have hlv7 := fun W (hS : SV w.heap.size w.heap.size g9 cap9 50 (5 + ((H9.length : Int) - (H7.length : Int))) K9 W H9) => level12_any hS p71 (r := f7) (by rw [p72]; exact p71)
  have hrt8 := fun W (hS : SV w.heap.size w.heap.size g9 cap9 50 (5 + ((H9.length : Int) - (H7.length : Int))) K9 W H9) => root12_any hS p81
  simp only [p93] at hkd5
  simp only [p73] at hkd7 hlv7
  simp only [p74, if_true] at hlv7
  simp only [p82] at hrt8
  have HKD5 := Lib.hid hkd5; have HKD7 := Lib.hid hkd7; have HLV7 := Lib.hid hlv7; have HRT8 := Lib.hid hrt8
  clear hkd5 hkd7 hlv7 hrt8 p51 p52 p53 p91 p92 p93 p71 p72 p73 p74 p81 p82
  go_wp2_with fail
  have hst : ∀ W W', SV w.heap.size w.heap.size g9 cap9 50 (5 + ((H9.length : Int) - (H7.length : Int))) K9 W H9 → Below w.heap.size w W → Kp W.heap.size (fun k => k = g9) W W' → Below w.heap.size w W' := fun W W' hS hB hK => kp_low hB (Nat.le_refl _) (Nat.le_refl _) hS.far.1 (hK.mono (M' := fun k => k = w.heap.size ∨ k = g9) (Nat.le_refl _) (fun _ _ h => .inr h))
  have hg9 := S9.out.far.2.1
  have hgn : e0 ≠ g9 := HGN.out
  have HSTP := Lib.hid hst
  clear hst
  refine (HKD5.out _ S9.out).mono ?_
  rintro e wa ⟨rfl, hsv, hk⟩
  have Sa := Lib.hid hsv; have Ba := Lib.hid (HSTP.out _ _ S9.out B9.out hk)
  have kc0 := hk.cell kc0 (by have := HE0.out; omega) hgn
  have kc1 := hk.cell kc1 (by have := HE0.out; omega) hgn
  have hza := hk.size
  clear hsv hk
  go_wp2_with fail
  refine (HKD7.out _ Sa.out).mono ?_
  rintro e wb ⟨rfl, hsv, hk⟩
  have Sb := Lib.hid hsv; have Bb := Lib.hid (HSTP.out _ _ Sa.out Ba.out hk)
  have kc0 := hk.cell kc0 (by have := HE0.out; omega) hgn
  have kc1 := hk.cell kc1 (by have := HE0.out; omega) hgn
  have hzb := hk.size
  clear hsv hk
  go_wp2_with fail
  refine (HLV7.out _ Sb.out).mono ?_
  rintro e wc ⟨rfl, hsv, hk⟩
  have Sc := Lib.hid hsv; have Bc := Lib.hid (HSTP.out _ _ Sb.out Bb.out hk)
  have kc0 := hk.cell kc0 (by have := HE0.out; omega) hgn
  have kc1 := hk.cell kc1 (by have := HE0.out; omega) hgn
  clear hsv hk
  go_wp2_with fail
  refine (HRT8.out _ Sc.out).mono ?_
  rintro e wd ⟨rfl, hsv, hk⟩
  have Bd := Lib.hid (HSTP.out _ _ Sc.out Bc.out hk)
  clear hsv hk
  go_wp2_with fail
  go_ret
  exact ⟨rfl, Bd.out⟩
end Go.Proofs.Yteolbbgnkbcfmaa

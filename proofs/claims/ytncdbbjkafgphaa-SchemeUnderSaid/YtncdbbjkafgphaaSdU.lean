/- The law SchemeUnder: its walk. SchemeUnder: whatever the input, the law returns true, and the arguments read as they did. -/
import Derived.Test.YtncdbbjkafgphaaScK
import Derived.Test.YtncdbbjkafgphaaScA
import Derived.Test.YtncdbbjkafgphaaRows
import Derived.Test.YtncdbbjkafgphaaTfA
import Derived.Test.YtncdbbjkafgphaaTfD
import Derived.ProofKit
import Derived.Carry
namespace Go.Proofs.Ytncdbbjkafgphaa
open Go Go.RowKit
open Tp (T Bd)
theorem small_600u {l : List T} (h : l.all Tp.small = true) : ∀ x ∈ l, Tp.size x ≤ 600 := fun x hx => by
  have h := List.all_eq_true.1 h x hx
  unfold Tp.small at h
  simp only [Bool.and_eq_true, Bool.not_eq_true', decide_eq_false_iff_not] at h
  have h1 := h.1.1
  simp only [Tp.sizes] at h1
  omega
set_option maxRecDepth 100000 in
set_option maxHeartbeats 16000000 in
theorem lunder11_any (t : T) (a : Option Addr) (cap : Nat) (u : T) (b : Option Addr) (cap' : Nat) (l : List T) (la : Option Addr) (ln lc : Nat) (l' : List T) (ma : Option Addr) (mn mc : Nat) (w : World) (hty : TyAt (LT w.heap.size) w t a cap) (hty' : TyAt (LT w.heap.size) w u b cap') (hl : ln = l.length ∧ ln ≤ lc ∧ lc ≤ maxLen ∧ KidsAt (LT w.heap.size) w l la) (hm : mn = l'.length ∧ mn ≤ mc ∧ mc ≤ maxLen ∧ KidsAt (LT w.heap.size) w l' ma) :
    Calls Try.prog 6 #[tv t a cap, tv u b cap', .slice la ln lc, .slice ma mn mc] w fun e w' => e = .returned (.bool true) ∧ Below w.heap.size w w' := by
  obtain ⟨k0, n0, m0, hv⟩ := TV.mk t
  obtain ⟨k9, n9, m9, hv'⟩ := TV.mk u
  rw [tv_of hv, tv_of hv']
  obtain ⟨hln, hl1, hl2, hl3⟩ := hl
  obtain ⟨hmn, hm1, hm2, hm3⟩ := hm
  obtain ⟨W2, hW2⟩ : ∃ W2, (w.alloc (.cells #[.int .i64 k0, .int .i64 n0, .slice a m0 cap] 24)).alloc (.cells #[.int .i64 k9, .int .i64 n9, .slice b m9 cap'] 24) = W2 := ⟨_, rfl⟩
  have hb2 : Below w.heap.size w W2 := by rw [← hW2]; exact ((Below.refl _ _).alloc (Nat.le_refl _) _).alloc (by simp) _
  have bx : BoxT W2 w.heap.size t k0 n0 m0 a cap := ⟨hv, by rw [← hW2]; exact box1 _ _ _ _ _, ty_later hty hb2⟩
  have bu : BoxT W2 (w.heap.size + 1) u k9 n9 m9 b cap' := ⟨hv', by rw [← hW2]; exact box2 _ _ _ _ _, ty_later hty' hb2⟩
  have hlk : ∀ x, Below w.heap.size w x → KidsAt (LT x.heap.size) x l la := fun x h => hl3.below h (fun _ h => h) (fun _ h2 => Nat.lt_of_lt_of_le h2 h.size)
  have hmk : ∀ x, Below w.heap.size w x → KidsAt (LT x.heap.size) x l' ma := fun x h => hm3.below h (fun _ h => h) (fun _ h2 => Nat.lt_of_lt_of_le h2 h.size)
  have HB2 := Lib.hid hb2; have HW2 := Lib.hid hW2; have BX2 := Lib.hid bx; have BU2 := Lib.hid bu; have HLN := Lib.hid hln; have HLM := Lib.hid (show l.length ≤ maxLen by omega); have HLK := Lib.hid hlk; have HMN := Lib.hid hmn; have HMM := Lib.hid (show l'.length ≤ maxLen by omega); have HMK := Lib.hid hmk
  clear hb2 hW2 hty hty' hv hv' hln hl1 hl2 hl3 hlk hmn hm1 hm2 hm3 hmk bx bu
  go_enter Try.func6, Try.ntmps6
  go_upto_region 1 with fail
  rw [HW2.out]
  obtain ⟨z, hz⟩ : ∃ r, [t, u].all Tp.small = r := ⟨_, rfl⟩
  have hh := small_any [t, u] (some ⟨W2.heap.size, 0, none⟩) 2 _ (by unfold maxLen; simp) (row_two BX2.out.ty BU2.out.ty BX2.out.says.1 BX2.out.says.2.1 BX2.out.says.2.2 BU2.out.says.1 BU2.out.says.2.1 BU2.out.says.2.2)
  rw [hz] at hh
  have HC := Lib.hid hh; have HPSmall := Lib.hid hz
  clear hh hz
  obtain ⟨c0, c1, c2⟩ := BX2.out.cells
  obtain ⟨d0, d1, d2⟩ := BU2.out.cells
  go_wp2_with fail
  refine HC.out.mono ?_
  clear c0 c1 c2 d0 d1 d2
  rintro e w3 ⟨rfl, hb⟩
  have hb' : Below W2.heap.size W2 w3 := ((Below.refl _ _).alloc (Nat.le_refl _) _).tr hb (Nat.le_refl _)
  have BX3 := Lib.hid (BX2.out.later hb'); have BU3 := Lib.hid (BU2.out.later hb'); have HB3 := Lib.hid (HB2.out.tr hb' (Nat.le_refl _))
  clear hb hb' HC
  cases z with
  | false =>
    go_wp2_with fail
    go_ret
    exact ⟨rfl, HB3.out⟩
  | true =>
    obtain ⟨z, hz⟩ : ∃ r, [t, u].all Tp.few = r := ⟨_, rfl⟩
    have hh := few_any [t, u] (some ⟨w3.heap.size, 0, none⟩) 2 _ (by unfold maxLen; simp) (row_two BX3.out.ty BU3.out.ty BX3.out.says.1 BX3.out.says.2.1 BX3.out.says.2.2 BU3.out.says.1 BU3.out.says.2.1 BU3.out.says.2.2)
    rw [hz] at hh
    have HC := Lib.hid hh; have HPFew := Lib.hid hz
    clear hh hz
    obtain ⟨c0, c1, c2⟩ := BX3.out.cells
    obtain ⟨d0, d1, d2⟩ := BU3.out.cells
    go_wp2_with fail
    refine HC.out.mono ?_
    clear c0 c1 c2 d0 d1 d2
    rintro e w4 ⟨rfl, hb⟩
    have hb' : Below w3.heap.size w3 w4 := ((Below.refl _ _).alloc (Nat.le_refl _) _).tr hb (Nat.le_refl _)
    have BX4 := Lib.hid (BX3.out.later hb'); have BU4 := Lib.hid (BU3.out.later hb'); have HB4 := Lib.hid (HB3.out.tr hb' (Nat.le_refl _))
    clear hb hb' HC
    cases z with
    | false =>
      go_wp2_with fail
      go_ret
      exact ⟨rfl, HB4.out⟩
    | true =>
      obtain ⟨z, hz⟩ : ∃ r, l.all Tp.small = r := ⟨_, rfl⟩
      have hh := small_any l la lc w4 HLM.out (HLK.out w4 HB4.out)
      rw [hz, ← HLN.out] at hh
      have HC := Lib.hid hh; have HPSL := Lib.hid hz
      clear hh hz
      go_wp2_with fail
      refine HC.out.mono ?_
      rintro e w5 ⟨rfl, hb⟩
      have BX5 := Lib.hid (BX4.out.later hb); have BU5 := Lib.hid (BU4.out.later hb); have HB5 := Lib.hid (HB4.out.tr hb (Nat.le_refl _))
      clear hb HC
      cases z with
      | false =>
        go_wp2_with fail
        go_ret
        exact ⟨rfl, HB5.out⟩
      | true =>
        obtain ⟨z, hz⟩ : ∃ r, l'.all Tp.small = r := ⟨_, rfl⟩
        have hh := small_any l' ma mc w5 HMM.out (HMK.out w5 HB5.out)
        rw [hz, ← HMN.out] at hh
        have HC := Lib.hid hh; have HPSM := Lib.hid hz
        clear hh hz
        go_wp2_with fail
        refine HC.out.mono ?_
        rintro e w6 ⟨rfl, hb⟩
        have BX6 := Lib.hid (BX5.out.later hb); have BU6 := Lib.hid (BU5.out.later hb); have HB6 := Lib.hid (HB5.out.tr hb (Nat.le_refl _))
        clear hb HC
        cases z with
        | false =>
          go_wp2_with fail
          go_ret
          exact ⟨rfl, HB6.out⟩
        | true =>
          by_cases h20 : (20 : Int) < (ln : Int)
          · skip
            go_wp2_with fail
            go_ret
            exact ⟨rfl, HB6.out⟩
          · skip
            by_cases g20 : (20 : Int) < (mn : Int)
            · skip
              go_wp2_with fail
              go_ret
              exact ⟨rfl, HB6.out⟩
            · skip
              have hh := lright_any l la lc w6 (by have := HLN.out; omega) (HLK.out w6 HB6.out)
              obtain ⟨z, hz⟩ : ∃ z, (!decide (600 < Tp.sizes l) && Tp.rights l) = z := ⟨_, rfl⟩
              rw [hz, ← HLN.out] at hh
              have HC := Lib.hid hh; have HPRL := Lib.hid hz
              clear hh hz
              go_wp2_with fail
              refine HC.out.mono ?_
              rintro e w7 ⟨rfl, hb⟩
              have BX7 := Lib.hid (BX6.out.later hb); have BU7 := Lib.hid (BU6.out.later hb); have HB7 := Lib.hid (HB6.out.tr hb (Nat.le_refl _))
              clear hb HC
              cases z with
              | false =>
                go_wp2_with fail
                go_ret
                exact ⟨rfl, HB7.out⟩
              | true =>
                have hh := lright_any l' ma mc w7 (by have := HMN.out; omega) (HMK.out w7 HB7.out)
                obtain ⟨z, hz⟩ : ∃ z, (!decide (600 < Tp.sizes l') && Tp.rights l') = z := ⟨_, rfl⟩
                rw [hz, ← HMN.out] at hh
                have HC := Lib.hid hh; have HPRM := Lib.hid hz
                clear hh hz
                go_wp2_with fail
                refine HC.out.mono ?_
                rintro e w8 ⟨rfl, hb⟩
                have BX8 := Lib.hid (BX7.out.later hb); have BU8 := Lib.hid (BU7.out.later hb); have HB8 := Lib.hid (HB7.out.tr hb (Nat.le_refl _))
                clear hb HC
                cases z with
                | false =>
                  go_wp2_with fail
                  go_ret
                  exact ⟨rfl, HB8.out⟩
                | true =>
                  obtain ⟨c0, c1, c2⟩ := BX8.out.cells
                  have hh := rright_any (Tp.size t) t a cap w8 (Nat.le_refl _) BX8.out.ty
                  rw [tv_of BX8.out.says] at hh
                  obtain ⟨z, hz⟩ : ∃ z, Tp.right t = z := ⟨_, rfl⟩
                  rw [hz] at hh
                  have HC := Lib.hid hh; have HPRT := Lib.hid hz
                  clear hh hz
                  go_wp2_with fail
                  refine HC.out.mono ?_
                  clear c0 c1 c2
                  rintro e w9 ⟨rfl, hb⟩
                  have BX9 := Lib.hid (BX8.out.later hb); have BU9 := Lib.hid (BU8.out.later hb); have HB9 := Lib.hid (HB8.out.tr hb (Nat.le_refl _))
                  clear hb HC
                  cases z with
                  | false =>
                    go_wp2_with fail
                    go_ret
                    exact ⟨rfl, HB9.out⟩
                  | true =>
                    obtain ⟨d0, d1, d2⟩ := BU9.out.cells
                    have hh := rright_any (Tp.size u) u b cap' w9 (Nat.le_refl _) BU9.out.ty
                    rw [tv_of BU9.out.says] at hh
                    obtain ⟨z, hz⟩ : ∃ z, Tp.right u = z := ⟨_, rfl⟩
                    rw [hz] at hh
                    have HC := Lib.hid hh; have HPRU := Lib.hid hz
                    clear hh hz
                    go_wp2_with fail
                    refine HC.out.mono ?_
                    clear d0 d1 d2
                    rintro e w10 ⟨rfl, hb⟩
                    have BX10 := Lib.hid (BX9.out.later hb); have BU10 := Lib.hid (BU9.out.later hb); have HB10 := Lib.hid (HB9.out.tr hb (Nat.le_refl _))
                    clear hb HC
                    cases z with
                    | false =>
                      go_wp2_with fail
                      go_ret
                      exact ⟨rfl, HB10.out⟩
                    | true =>
                      have hrl : Tp.rights l = true := by have h := HPRL.out; rw [Bool.and_eq_true] at h; exact h.2
                      have hrm : Tp.rights l' = true := by have h := HPRM.out; rw [Bool.and_eq_true] at h; exact h.2
                      have hts := small_600u HPSmall.out
                      have hst : Tp.size t ≤ 600 := hts t (by simp)
                      have hsu : Tp.size u ≤ 600 := hts u (by simp)
                      have hls := small_600u HPSL.out
                      have hms := small_600u HPSM.out
                      obtain ⟨f1, f2, f3⟩ := stat_facts true HPRT.out hrl hls
                      obtain ⟨g1, g2, g3⟩ := stat_facts true HPRU.out hrm hms
                      have f5 : (statL (Tp.vars t []) l true (Tp.vars t []).length).length ≤ 600 := by
                        have h1 : (statL (Tp.vars t []) l true (Tp.vars t []).length).length = (Tp.vars t []).length := by simp [statL]
                        have := Tp.vlenC t []; simp only [List.length_nil] at this; omega
                      have g5 : (statL (Tp.vars u []) l' true (Tp.vars u []).length).length ≤ 600 := by
                        have h1 : (statL (Tp.vars u []) l' true (Tp.vars u []).length).length = (Tp.vars u []).length := by simp [statL]
                        have := Tp.vlenC u []; simp only [List.length_nil] at this; omega
                      have hcl := fun x (h : Below w10.heap.size w10 x) => closing_any t a cap l la lc x (by omega) (BX10.out.later h).ty HLM.out (fun y hy => by have := hls y hy; omega) (HLK.out x (HB10.out.tr h (Nat.le_refl _)))
                      have hcm := fun x (h : Below w10.heap.size w10 x) => closing_any u b cap' l' ma mc x (by omega) (BU10.out.later h).ty HMM.out (fun y hy => by have := hms y hy; omega) (HMK.out x (HB10.out.tr h (Nat.le_refl _)))
                      rw [tv_of BX10.out.says, ← HLN.out] at hcl
                      rw [tv_of BU10.out.says, ← HMN.out] at hcm
                      have hq1 := closing_stc (t := t) hrl
                      have hq2 := closing_stc (t := u) hrm
                      obtain ⟨B, hB⟩ : ∃ B, statL (Tp.vars t []) l true (Tp.vars t []).length = B := ⟨_, rfl⟩
                      obtain ⟨D, hD⟩ : ∃ B, statL (Tp.vars u []) l' true (Tp.vars u []).length = B := ⟨_, rfl⟩
                      rw [hB] at f1 f2 f3 f5 hcl hq1
                      rw [hD] at g1 g2 g3 g5 hcm hq2
                      obtain ⟨x, hx⟩ : ∃ x, Tp.sub B t = x := ⟨_, rfl⟩
                      obtain ⟨y, hy⟩ : ∃ x, Tp.sub D u = x := ⟨_, rfl⟩
                      have hrx : Tp.right x = true := by rw [← hx]; exact Tp.sub_right (fun b hb => (f2 b hb).1) t HPRT.out
                      have hry : Tp.right y = true := by rw [← hy]; exact Tp.sub_right (fun b hb => (g2 b hb).1) u HPRU.out
                      obtain ⟨q1, q2⟩ := under_facts HPRT.out HPRU.out hq1 hq2 hx hy
                      rw [hx] at f3; rw [hy] at g3
                      obtain ⟨xk, xn, xm, hvx⟩ := TV.mk x
                      obtain ⟨yk, yn, ym, hvy⟩ := TV.mk y
                      have HCL := Lib.hid hcl; have HCM := Lib.hid hcm; have F1 := Lib.hid f1; have F2 := Lib.hid f2; have F5 := Lib.hid f5; have G1 := Lib.hid g1; have G2 := Lib.hid g2; have G5 := Lib.hid g5; have HST := Lib.hid hst; have HSU := Lib.hid hsu; have HX := Lib.hid hx; have HY := Lib.hid hy; have HRX := Lib.hid hrx; have HRY := Lib.hid hry; have Q1 := Lib.hid q1; have Q2 := Lib.hid q2; have HVX := Lib.hid hvx; have HVY := Lib.hid hvy; have HSX := Lib.hid (show Tp.size x ≤ 360000 by omega); have HSY := Lib.hid (show Tp.size y ≤ 360000 by omega)
                      clear hcl hcm f1 f2 f3 f5 g1 g2 g3 g5 hrl hrm hts hst hsu hls hms hB hD hx hy hrx hry q1 q2 hq1 hq2 hvx hvy
                      have HBA := Lib.hid (Below.refl w10.heap.size w10)
                      go_upto_region 3 with fail
                      clear h20 g20
                      have HCELL := Lib.hid (fun x (h : Below w10.heap.size w10 x) => (BX10.out.later h).cells)
                      go_cut [9, 10] from 65 (fun v12 v13 wx => ∃ bb sa sc, v12 = .pointer (some ⟨bb, 0, none⟩) ∧ v13 = .int .i64 0 ∧ BoxT wx bb x xk xn xm sa sc ∧ Below w10.heap.size w10 wx)
                      case first =>
                        obtain ⟨U0, hU0⟩ : ∃ V, w10.drew = V := ⟨_, rfl⟩
                        have HS0 := Lib.hid (show Below w10.heap.size w10 U0 by rw [← hU0]; exact (Below.refl _ _).drew)
                        refine wp_region_held_drew (S := Below w10.heap.size w10) (by kernel_rfl) (Below.refl _ _).drew (fun _ => ?_)
                        rw [hU0]
                        clear hU0
                        refine wpAnyH_take (i := 0) (oi := ⟨some 66, _, _, _, _, _⟩) (v := ?_) rfl (by kernel_rfl) (by kernel_rfl) (by kernel_rfl) (fun _ _ _ h => h) (Or.inl ⟨by rfl, ?_⟩) HS0.out ?_
                        rotate_left
                        · (intro xx hSw; obtain ⟨c0, c1, c2⟩ := HCELL.out _ hSw; go_simp; (try with_reducible rfl))
                        try simp only [Act.put, List.setIfInBounds_toArray, List.set_cons_zero, List.set_cons_succ]
                        refine wpAnyH_take (i := 1) (oi := ⟨some 67, _, _, _, _, _⟩) (v := ?_) rfl (by kernel_rfl) (by kernel_rfl) (by kernel_rfl) (fun _ _ _ h => h) (Or.inl ⟨by rfl, ?_⟩) HS0.out ?_
                        rotate_left
                        · (intro xx hSw; obtain ⟨c0, c1, c2⟩ := HCELL.out _ hSw; go_simp; (try with_reducible rfl))
                        try simp only [Act.put, List.setIfInBounds_toArray, List.set_cons_zero, List.set_cons_succ]
                        refine wpAnyH_take (i := 2) (oi := ⟨some 68, _, _, _, _, _⟩) (v := ?_) rfl (by kernel_rfl) (by kernel_rfl) (by kernel_rfl) (fun _ _ _ h => h) (Or.inl ⟨by rfl, ?_⟩) HS0.out ?_
                        rotate_left
                        · (intro xx hSw; obtain ⟨c0, c1, c2⟩ := HCELL.out _ hSw; go_simp; (try with_reducible rfl))
                        try simp only [Act.put, List.setIfInBounds_toArray, List.set_cons_zero, List.set_cons_succ]
                        refine wpAnyH_ready (rs := [3, 8]) (by kernel_rfl) (by simp) ?_
                        refine AllReadyH.cons (o := ⟨some 69, _, _, _, _, _⟩) rfl (fun K hK => ?_) (AllReadyH.cons (o := ⟨some 9, _, _, _, _, _⟩) rfl (fun K hK => ?_) AllReadyH.nil)
                        · skip
                          go_simp
                          refine (HCL.out _ (Go.RowKit.Below.tr HBA.out HS0.out (Nat.le_refl _))).mono ?_
                          rintro e U1 ⟨vv, bs, rfl, hrow, hbs, hb⟩
                          obtain ⟨ra, rc, rfl⟩ := own_shapeT hrow.own
                          obtain ⟨g1, g2, g3, g4⟩ := hrow.binds
                          rw [hbs] at g4
                          have hbl : bs.length = B.length := by rw [← hbs, List.length_map]
                          rw [hbl]
                          have HK1 := Lib.hid hb
                          have HS1 := Lib.hid (Go.RowKit.Below.tr HS0.out hb (Nat.le_refl _))
                          have HG := Lib.hid g4
                          clear hb hrow hbs g1 g2 g3 g4 hbl
                          dsimp only
                          refine hK.out _ _ HS1.out (fun _ => ?_)
                          clear hK K
                          try simp only [Act.put, List.setIfInBounds_toArray, List.set_cons_zero, List.set_cons_succ]
                          refine wpAnyH_ready (rs := [4, 8]) (by kernel_rfl) (by simp) ?_
                          refine AllReadyH.cons (o := ⟨some 70, _, _, _, _, _⟩) rfl (fun K hK => ?_) (AllReadyH.cons (o := ⟨some 9, _, _, _, _, _⟩) rfl (fun K hK => ?_) AllReadyH.nil)
                          · skip
                            have hsu := subst_any B t k0 n0 m0 a cap ra rc U1 BX10.out.says (BX10.out.later HS1.out).ty HG.out (by have := F5.out; omega) (by have := HST.out; omega) (fun x hx => by have := (F2.out x hx).2.2; omega)
                            have HSUB := Lib.hid hsu
                            clear hsu
                            go_simp
                            refine HSUB.out.mono ?_
                            rintro e U2 ⟨hb, hcase⟩
                            obtain ⟨_, sa, sc, rfl, ht⟩ := hcase.resolve_right (fun h => by have h1 := h.1; rw [F1.out] at h1; cases h1)
                            rw [HX.out] at ht ⊢
                            rw [tv_of HVX.out]
                            have HK2 := Lib.hid hb
                            have HS2 := Lib.hid (Go.RowKit.Below.tr HS1.out hb (Nat.le_refl _))
                            have HTY := Lib.hid ht
                            clear hb ht hcase HSUB
                            dsimp only
                            refine hK.out _ _ HS2.out (fun _ => ?_)
                            clear hK K
                            try simp only [Act.put, List.setIfInBounds_toArray, List.set_cons_zero, List.set_cons_succ]
                            refine wpAnyH_take (i := 5) (oi := ⟨some 65, _, _, _, _, _⟩) (v := ?_) rfl (by kernel_rfl) (by kernel_rfl) (by kernel_rfl) (fun _ _ _ h => h) (Or.inl ⟨by rfl, ?_⟩) HS2.out ?_
                            rotate_left
                            · (intro xx hSw; obtain ⟨c0, c1, c2⟩ := HCELL.out _ hSw; go_simp; (try with_reducible rfl))
                            try simp only [Act.put, List.setIfInBounds_toArray, List.set_cons_zero, List.set_cons_succ]
                            refine wpAnyH_take (i := 6) (oi := ⟨some 71, _, _, _, _, _⟩) (v := ?_) rfl (by kernel_rfl) (by kernel_rfl) (by kernel_rfl) (fun _ _ _ h => h) (Or.inl ⟨by rfl, ?_⟩) HS2.out ?_
                            rotate_left
                            · (intro xx hSw; obtain ⟨c0, c1, c2⟩ := HCELL.out _ hSw; go_simp; (try with_reducible rfl))
                            try simp only [Act.put, List.setIfInBounds_toArray, List.set_cons_zero, List.set_cons_succ]
                            refine wpAnyH_take (i := 7) (oi := ⟨some 72, _, _, _, _, _⟩) (v := ?_) rfl (by kernel_rfl) (by kernel_rfl) (by kernel_rfl) (fun _ _ _ h => h) (Or.inl ⟨by rfl, ?_⟩) HS2.out ?_
                            rotate_left
                            · (intro xx hSw; obtain ⟨c0, c1, c2⟩ := HCELL.out _ hSw; go_simp; (try with_reducible rfl))
                            try simp only [Act.put, List.setIfInBounds_toArray, List.set_cons_zero, List.set_cons_succ]
                            refine wpAnyH_ready (rs := [8]) (by kernel_rfl) (by simp) ?_
                            refine AllReadyH.cons (o := ⟨some 9, _, _, _, _, _⟩) rfl (fun K hK => ?_) AllReadyH.nil
                            go_simp
                            obtain ⟨U3, hU⟩ : ∃ V, U2.alloc (.cells #[.int .i64 0, .int .i64 0, .slice none 0 0] 24) = V := ⟨_, rfl⟩
                            rw [hU]
                            have HS3 := Lib.hid (show Below w10.heap.size w10 U3 by rw [← hU]; exact HS2.out.alloc HS2.out.size _)
                            have HK3 := Lib.hid (show Below U2.heap.size U2 U3 by rw [← hU]; exact (Below.refl _ _).alloc (Nat.le_refl _) _)
                            have HZB := Lib.hid (show U3.heap[U2.heap.size]? = some (.cells #[.int .i64 0, .int .i64 0, .slice none 0 0] 24) by rw [← hU]; exact World.alloc_heap_new _ _)
                            have HLB := Lib.hid (show U2.heap.size < U3.heap.size by rw [← hU, World.size_alloc]; omega)
                            have HBB := Lib.hid HS2.out.size
                            have HTY := Lib.hid (ty_later HTY.out HK3.out)
                            clear hU
                            refine hK.out _ _ HS3.out (fun _ => ?_)
                            clear hK K
                            try simp only [Act.put, List.setIfInBounds_toArray, List.set_cons_zero, List.set_cons_succ]
                            have hpb := put_box (F := _) (bb := U2.heap.size) HVX.out (kids_right HRX.out) HZB.out HTY.out HS3.out HBB.out rfl
                            obtain ⟨z0, z1, z2, z3, z4, z5⟩ := zero_facts HZB.out
                            have HPB := Lib.hid hpb
                            refine wpAnyH_ready (rs := [9]) (by kernel_rfl) (by simp) ?_
                            refine AllReadyH.cons (o := ⟨none, _, _, _, _, _⟩) rfl (fun K hK => ?_) AllReadyH.nil
                            go_simp
                            refine hK.out _ _ hpb.2 (fun _ => ?_)
                            clear hK K
                            try simp only [Act.put, List.setIfInBounds_toArray, List.set_cons_zero, List.set_cons_succ]
                            refine wpAnyH_take (i := 10) (oi := ⟨some 10, _, _, _, _, _⟩) (v := ?_) rfl (by kernel_rfl) (by kernel_rfl) (by kernel_rfl) (fun _ _ _ h => h) (Or.inl ⟨by rfl, ?_⟩) hpb.2 ?_
                            rotate_left
                            · (intro xx hSw; obtain ⟨c0, c1, c2⟩ := HCELL.out _ hSw; go_simp; (try with_reducible rfl))
                            try simp only [Act.put, List.setIfInBounds_toArray, List.set_cons_zero, List.set_cons_succ]
                            refine wpAnyH_done (by kernel_rfl) ?_ _
                            go_wp2_with fail
                            go_meet
                            case rel => exact ⟨_, _, _, rfl, rfl, HPB.out.1, HPB.out.2⟩
                          · skip
                            go_simp
                            obtain ⟨U2, hU⟩ : ∃ V, U1.alloc (.cells #[.int .i64 0, .int .i64 0, .slice none 0 0] 24) = V := ⟨_, rfl⟩
                            rw [hU]
                            have HS2 := Lib.hid (show Below w10.heap.size w10 U2 by rw [← hU]; exact HS1.out.alloc HS1.out.size _)
                            have HK2 := Lib.hid (show Below U1.heap.size U1 U2 by rw [← hU]; exact (Below.refl _ _).alloc (Nat.le_refl _) _)
                            have HZB := Lib.hid (show U2.heap[U1.heap.size]? = some (.cells #[.int .i64 0, .int .i64 0, .slice none 0 0] 24) by rw [← hU]; exact World.alloc_heap_new _ _)
                            have HLB := Lib.hid (show U1.heap.size < U2.heap.size by rw [← hU, World.size_alloc]; omega)
                            have HBB := Lib.hid HS1.out.size
                            have HG := Lib.hid (HG.out.low HK2.out)
                            clear hU
                            refine hK.out _ _ HS2.out (fun _ => ?_)
                            clear hK K
                            try simp only [Act.put, List.setIfInBounds_toArray, List.set_cons_zero, List.set_cons_succ]
                            refine wpAnyH_ready (rs := [4]) (by kernel_rfl) (by simp) ?_
                            refine AllReadyH.cons (o := ⟨some 70, _, _, _, _, _⟩) rfl (fun K hK => ?_) AllReadyH.nil
                            have hsu := subst_any B t k0 n0 m0 a cap ra rc U2 BX10.out.says (BX10.out.later HS2.out).ty HG.out (by have := F5.out; omega) (by have := HST.out; omega) (fun x hx => by have := (F2.out x hx).2.2; omega)
                            have HSUB := Lib.hid hsu
                            clear hsu
                            go_simp
                            refine HSUB.out.mono ?_
                            rintro e U3 ⟨hb, hcase⟩
                            obtain ⟨_, sa, sc, rfl, ht⟩ := hcase.resolve_right (fun h => by have h1 := h.1; rw [F1.out] at h1; cases h1)
                            rw [HX.out] at ht ⊢
                            rw [tv_of HVX.out]
                            have HK3 := Lib.hid hb
                            have HS3 := Lib.hid (Go.RowKit.Below.tr HS2.out hb (Nat.le_refl _))
                            have HTY := Lib.hid ht
                            clear hb ht hcase HSUB
                            dsimp only
                            have HZB := Lib.hid ((HK3.out.block _ HLB.out).trans HZB.out)
                            have HLB := Lib.hid (Nat.lt_of_lt_of_le HLB.out HK3.out.size)
                            refine hK.out _ _ HS3.out (fun _ => ?_)
                            clear hK K
                            try simp only [Act.put, List.setIfInBounds_toArray, List.set_cons_zero, List.set_cons_succ]
                            refine wpAnyH_take (i := 5) (oi := ⟨some 65, _, _, _, _, _⟩) (v := ?_) rfl (by kernel_rfl) (by kernel_rfl) (by kernel_rfl) (fun _ _ _ h => h) (Or.inl ⟨by rfl, ?_⟩) HS3.out ?_
                            rotate_left
                            · (intro xx hSw; obtain ⟨c0, c1, c2⟩ := HCELL.out _ hSw; go_simp; (try with_reducible rfl))
                            try simp only [Act.put, List.setIfInBounds_toArray, List.set_cons_zero, List.set_cons_succ]
                            refine wpAnyH_take (i := 6) (oi := ⟨some 71, _, _, _, _, _⟩) (v := ?_) rfl (by kernel_rfl) (by kernel_rfl) (by kernel_rfl) (fun _ _ _ h => h) (Or.inl ⟨by rfl, ?_⟩) HS3.out ?_
                            rotate_left
                            · (intro xx hSw; obtain ⟨c0, c1, c2⟩ := HCELL.out _ hSw; go_simp; (try with_reducible rfl))
                            try simp only [Act.put, List.setIfInBounds_toArray, List.set_cons_zero, List.set_cons_succ]
                            refine wpAnyH_take (i := 7) (oi := ⟨some 72, _, _, _, _, _⟩) (v := ?_) rfl (by kernel_rfl) (by kernel_rfl) (by kernel_rfl) (fun _ _ _ h => h) (Or.inl ⟨by rfl, ?_⟩) HS3.out ?_
                            rotate_left
                            · (intro xx hSw; obtain ⟨c0, c1, c2⟩ := HCELL.out _ hSw; go_simp; (try with_reducible rfl))
                            try simp only [Act.put, List.setIfInBounds_toArray, List.set_cons_zero, List.set_cons_succ]
                            have hpb := put_box (F := _) (bb := U1.heap.size) HVX.out (kids_right HRX.out) HZB.out HTY.out HS3.out HBB.out rfl
                            obtain ⟨z0, z1, z2, z3, z4, z5⟩ := zero_facts HZB.out
                            have HPB := Lib.hid hpb
                            refine wpAnyH_ready (rs := [9]) (by kernel_rfl) (by simp) ?_
                            refine AllReadyH.cons (o := ⟨none, _, _, _, _, _⟩) rfl (fun K hK => ?_) AllReadyH.nil
                            go_simp
                            refine hK.out _ _ hpb.2 (fun _ => ?_)
                            clear hK K
                            try simp only [Act.put, List.setIfInBounds_toArray, List.set_cons_zero, List.set_cons_succ]
                            refine wpAnyH_take (i := 10) (oi := ⟨some 10, _, _, _, _, _⟩) (v := ?_) rfl (by kernel_rfl) (by kernel_rfl) (by kernel_rfl) (fun _ _ _ h => h) (Or.inl ⟨by rfl, ?_⟩) hpb.2 ?_
                            rotate_left
                            · (intro xx hSw; obtain ⟨c0, c1, c2⟩ := HCELL.out _ hSw; go_simp; (try with_reducible rfl))
                            try simp only [Act.put, List.setIfInBounds_toArray, List.set_cons_zero, List.set_cons_succ]
                            refine wpAnyH_done (by kernel_rfl) ?_ _
                            go_wp2_with fail
                            go_meet
                            case rel => exact ⟨_, _, _, rfl, rfl, HPB.out.1, HPB.out.2⟩
                        · skip
                          go_simp
                          obtain ⟨U1, hU⟩ : ∃ V, U0.alloc (.cells #[.int .i64 0, .int .i64 0, .slice none 0 0] 24) = V := ⟨_, rfl⟩
                          rw [hU]
                          have HS1 := Lib.hid (show Below w10.heap.size w10 U1 by rw [← hU]; exact HS0.out.alloc HS0.out.size _)
                          have HK1 := Lib.hid (show Below U0.heap.size U0 U1 by rw [← hU]; exact (Below.refl _ _).alloc (Nat.le_refl _) _)
                          have HZB := Lib.hid (show U1.heap[U0.heap.size]? = some (.cells #[.int .i64 0, .int .i64 0, .slice none 0 0] 24) by rw [← hU]; exact World.alloc_heap_new _ _)
                          have HLB := Lib.hid (show U0.heap.size < U1.heap.size by rw [← hU, World.size_alloc]; omega)
                          have HBB := Lib.hid HS0.out.size
                          clear hU
                          refine hK.out _ _ HS1.out (fun _ => ?_)
                          clear hK K
                          try simp only [Act.put, List.setIfInBounds_toArray, List.set_cons_zero, List.set_cons_succ]
                          refine wpAnyH_ready (rs := [3]) (by kernel_rfl) (by simp) ?_
                          refine AllReadyH.cons (o := ⟨some 69, _, _, _, _, _⟩) rfl (fun K hK => ?_) AllReadyH.nil
                          go_simp
                          refine (HCL.out _ (Go.RowKit.Below.tr HBA.out HS1.out (Nat.le_refl _))).mono ?_
                          rintro e U2 ⟨vv, bs, rfl, hrow, hbs, hb⟩
                          obtain ⟨ra, rc, rfl⟩ := own_shapeT hrow.own
                          obtain ⟨g1, g2, g3, g4⟩ := hrow.binds
                          rw [hbs] at g4
                          have hbl : bs.length = B.length := by rw [← hbs, List.length_map]
                          rw [hbl]
                          have HK2 := Lib.hid hb
                          have HS2 := Lib.hid (Go.RowKit.Below.tr HS1.out hb (Nat.le_refl _))
                          have HG := Lib.hid g4
                          clear hb hrow hbs g1 g2 g3 g4 hbl
                          dsimp only
                          have HZB := Lib.hid ((HK2.out.block _ HLB.out).trans HZB.out)
                          have HLB := Lib.hid (Nat.lt_of_lt_of_le HLB.out HK2.out.size)
                          refine hK.out _ _ HS2.out (fun _ => ?_)
                          clear hK K
                          try simp only [Act.put, List.setIfInBounds_toArray, List.set_cons_zero, List.set_cons_succ]
                          refine wpAnyH_ready (rs := [4]) (by kernel_rfl) (by simp) ?_
                          refine AllReadyH.cons (o := ⟨some 70, _, _, _, _, _⟩) rfl (fun K hK => ?_) AllReadyH.nil
                          have hsu := subst_any B t k0 n0 m0 a cap ra rc U2 BX10.out.says (BX10.out.later HS2.out).ty HG.out (by have := F5.out; omega) (by have := HST.out; omega) (fun x hx => by have := (F2.out x hx).2.2; omega)
                          have HSUB := Lib.hid hsu
                          clear hsu
                          go_simp
                          refine HSUB.out.mono ?_
                          rintro e U3 ⟨hb, hcase⟩
                          obtain ⟨_, sa, sc, rfl, ht⟩ := hcase.resolve_right (fun h => by have h1 := h.1; rw [F1.out] at h1; cases h1)
                          rw [HX.out] at ht ⊢
                          rw [tv_of HVX.out]
                          have HK3 := Lib.hid hb
                          have HS3 := Lib.hid (Go.RowKit.Below.tr HS2.out hb (Nat.le_refl _))
                          have HTY := Lib.hid ht
                          clear hb ht hcase HSUB
                          dsimp only
                          have HZB := Lib.hid ((HK3.out.block _ HLB.out).trans HZB.out)
                          have HLB := Lib.hid (Nat.lt_of_lt_of_le HLB.out HK3.out.size)
                          refine hK.out _ _ HS3.out (fun _ => ?_)
                          clear hK K
                          try simp only [Act.put, List.setIfInBounds_toArray, List.set_cons_zero, List.set_cons_succ]
                          refine wpAnyH_take (i := 5) (oi := ⟨some 65, _, _, _, _, _⟩) (v := ?_) rfl (by kernel_rfl) (by kernel_rfl) (by kernel_rfl) (fun _ _ _ h => h) (Or.inl ⟨by rfl, ?_⟩) HS3.out ?_
                          rotate_left
                          · (intro xx hSw; obtain ⟨c0, c1, c2⟩ := HCELL.out _ hSw; go_simp; (try with_reducible rfl))
                          try simp only [Act.put, List.setIfInBounds_toArray, List.set_cons_zero, List.set_cons_succ]
                          refine wpAnyH_take (i := 6) (oi := ⟨some 71, _, _, _, _, _⟩) (v := ?_) rfl (by kernel_rfl) (by kernel_rfl) (by kernel_rfl) (fun _ _ _ h => h) (Or.inl ⟨by rfl, ?_⟩) HS3.out ?_
                          rotate_left
                          · (intro xx hSw; obtain ⟨c0, c1, c2⟩ := HCELL.out _ hSw; go_simp; (try with_reducible rfl))
                          try simp only [Act.put, List.setIfInBounds_toArray, List.set_cons_zero, List.set_cons_succ]
                          refine wpAnyH_take (i := 7) (oi := ⟨some 72, _, _, _, _, _⟩) (v := ?_) rfl (by kernel_rfl) (by kernel_rfl) (by kernel_rfl) (fun _ _ _ h => h) (Or.inl ⟨by rfl, ?_⟩) HS3.out ?_
                          rotate_left
                          · (intro xx hSw; obtain ⟨c0, c1, c2⟩ := HCELL.out _ hSw; go_simp; (try with_reducible rfl))
                          try simp only [Act.put, List.setIfInBounds_toArray, List.set_cons_zero, List.set_cons_succ]
                          have hpb := put_box (F := _) (bb := U0.heap.size) HVX.out (kids_right HRX.out) HZB.out HTY.out HS3.out HBB.out rfl
                          obtain ⟨z0, z1, z2, z3, z4, z5⟩ := zero_facts HZB.out
                          have HPB := Lib.hid hpb
                          refine wpAnyH_ready (rs := [9]) (by kernel_rfl) (by simp) ?_
                          refine AllReadyH.cons (o := ⟨none, _, _, _, _, _⟩) rfl (fun K hK => ?_) AllReadyH.nil
                          go_simp
                          refine hK.out _ _ hpb.2 (fun _ => ?_)
                          clear hK K
                          try simp only [Act.put, List.setIfInBounds_toArray, List.set_cons_zero, List.set_cons_succ]
                          refine wpAnyH_take (i := 10) (oi := ⟨some 10, _, _, _, _, _⟩) (v := ?_) rfl (by kernel_rfl) (by kernel_rfl) (by kernel_rfl) (fun _ _ _ h => h) (Or.inl ⟨by rfl, ?_⟩) hpb.2 ?_
                          rotate_left
                          · (intro xx hSw; obtain ⟨c0, c1, c2⟩ := HCELL.out _ hSw; go_simp; (try with_reducible rfl))
                          try simp only [Act.put, List.setIfInBounds_toArray, List.set_cons_zero, List.set_cons_succ]
                          refine wpAnyH_done (by kernel_rfl) ?_ _
                          go_wp2_with fail
                          go_meet
                          case rel => exact ⟨_, _, _, rfl, rfl, HPB.out.1, HPB.out.2⟩
                      case rest =>
                      obtain ⟨bbx, sax, scx, rfl, rfl, bw, hb⟩ := hcut
                      obtain ⟨y3, hy3⟩ : ∃ q, wc = q := ⟨_, rfl⟩
                      subst hy3
                      have HBA := Lib.hid hb
                      have BZ3 := Lib.hid bw; have BX3' := Lib.hid (BX10.out.later hb); have BU3' := Lib.hid (BU10.out.later hb); have HB3' := Lib.hid (HB10.out.tr hb (Nat.le_refl _))
                      clear bw hb HCELL
                      obtain ⟨Y3, hY3⟩ : ∃ q, wc = q := ⟨_, rfl⟩
                      rw [hY3] at BZ3 BX3' BU3' HB3' HBA ⊢
                      clear hY3 wc
                      go_upto_region 4 with fail
                      have HCELL := Lib.hid (fun x (h : Below Y3.heap.size Y3 x) => (BU3'.out.later h).cells)
                      go_cut [11, 12] from 73 (fun v12 v13 wx => ∃ bb sa sc, v12 = .pointer (some ⟨bb, 0, none⟩) ∧ v13 = .int .i64 0 ∧ BoxT wx bb y yk yn ym sa sc ∧ Below Y3.heap.size Y3 wx)
                      case first =>
                        obtain ⟨U0, hU0⟩ : ∃ V, Y3.drew = V := ⟨_, rfl⟩
                        have HS0 := Lib.hid (show Below Y3.heap.size Y3 U0 by rw [← hU0]; exact (Below.refl _ _).drew)
                        refine wp_region_held_drew (S := Below Y3.heap.size Y3) (by kernel_rfl) (Below.refl _ _).drew (fun _ => ?_)
                        rw [hU0]
                        clear hU0
                        refine wpAnyH_take (i := 0) (oi := ⟨some 74, _, _, _, _, _⟩) (v := ?_) rfl (by kernel_rfl) (by kernel_rfl) (by kernel_rfl) (fun _ _ _ h => h) (Or.inl ⟨by rfl, ?_⟩) HS0.out ?_
                        rotate_left
                        · (intro xx hSw; obtain ⟨c0, c1, c2⟩ := HCELL.out _ hSw; go_simp; (try with_reducible rfl))
                        try simp only [Act.put, List.setIfInBounds_toArray, List.set_cons_zero, List.set_cons_succ]
                        refine wpAnyH_take (i := 1) (oi := ⟨some 75, _, _, _, _, _⟩) (v := ?_) rfl (by kernel_rfl) (by kernel_rfl) (by kernel_rfl) (fun _ _ _ h => h) (Or.inl ⟨by rfl, ?_⟩) HS0.out ?_
                        rotate_left
                        · (intro xx hSw; obtain ⟨c0, c1, c2⟩ := HCELL.out _ hSw; go_simp; (try with_reducible rfl))
                        try simp only [Act.put, List.setIfInBounds_toArray, List.set_cons_zero, List.set_cons_succ]
                        refine wpAnyH_take (i := 2) (oi := ⟨some 76, _, _, _, _, _⟩) (v := ?_) rfl (by kernel_rfl) (by kernel_rfl) (by kernel_rfl) (fun _ _ _ h => h) (Or.inl ⟨by rfl, ?_⟩) HS0.out ?_
                        rotate_left
                        · (intro xx hSw; obtain ⟨c0, c1, c2⟩ := HCELL.out _ hSw; go_simp; (try with_reducible rfl))
                        try simp only [Act.put, List.setIfInBounds_toArray, List.set_cons_zero, List.set_cons_succ]
                        refine wpAnyH_ready (rs := [3, 8]) (by kernel_rfl) (by simp) ?_
                        refine AllReadyH.cons (o := ⟨some 77, _, _, _, _, _⟩) rfl (fun K hK => ?_) (AllReadyH.cons (o := ⟨some 11, _, _, _, _, _⟩) rfl (fun K hK => ?_) AllReadyH.nil)
                        · skip
                          go_simp
                          refine (HCM.out _ (Go.RowKit.Below.tr HBA.out HS0.out (Nat.le_refl _))).mono ?_
                          rintro e U1 ⟨vv, bs, rfl, hrow, hbs, hb⟩
                          obtain ⟨ra, rc, rfl⟩ := own_shapeT hrow.own
                          obtain ⟨g1, g2, g3, g4⟩ := hrow.binds
                          rw [hbs] at g4
                          have hbl : bs.length = D.length := by rw [← hbs, List.length_map]
                          rw [hbl]
                          have HK1 := Lib.hid hb
                          have HS1 := Lib.hid (Go.RowKit.Below.tr HS0.out hb (Nat.le_refl _))
                          have HG := Lib.hid g4
                          clear hb hrow hbs g1 g2 g3 g4 hbl
                          dsimp only
                          refine hK.out _ _ HS1.out (fun _ => ?_)
                          clear hK K
                          try simp only [Act.put, List.setIfInBounds_toArray, List.set_cons_zero, List.set_cons_succ]
                          refine wpAnyH_ready (rs := [4, 8]) (by kernel_rfl) (by simp) ?_
                          refine AllReadyH.cons (o := ⟨some 78, _, _, _, _, _⟩) rfl (fun K hK => ?_) (AllReadyH.cons (o := ⟨some 11, _, _, _, _, _⟩) rfl (fun K hK => ?_) AllReadyH.nil)
                          · skip
                            have hsu := subst_any D u k9 n9 m9 b cap' ra rc U1 BU3'.out.says (BU3'.out.later HS1.out).ty HG.out (by have := G5.out; omega) (by have := HSU.out; omega) (fun x hx => by have := (G2.out x hx).2.2; omega)
                            have HSUB := Lib.hid hsu
                            clear hsu
                            go_simp
                            refine HSUB.out.mono ?_
                            rintro e U2 ⟨hb, hcase⟩
                            obtain ⟨_, sa, sc, rfl, ht⟩ := hcase.resolve_right (fun h => by have h1 := h.1; rw [G1.out] at h1; cases h1)
                            rw [HY.out] at ht ⊢
                            rw [tv_of HVY.out]
                            have HK2 := Lib.hid hb
                            have HS2 := Lib.hid (Go.RowKit.Below.tr HS1.out hb (Nat.le_refl _))
                            have HTY := Lib.hid ht
                            clear hb ht hcase HSUB
                            dsimp only
                            refine hK.out _ _ HS2.out (fun _ => ?_)
                            clear hK K
                            try simp only [Act.put, List.setIfInBounds_toArray, List.set_cons_zero, List.set_cons_succ]
                            refine wpAnyH_take (i := 5) (oi := ⟨some 73, _, _, _, _, _⟩) (v := ?_) rfl (by kernel_rfl) (by kernel_rfl) (by kernel_rfl) (fun _ _ _ h => h) (Or.inl ⟨by rfl, ?_⟩) HS2.out ?_
                            rotate_left
                            · (intro xx hSw; obtain ⟨c0, c1, c2⟩ := HCELL.out _ hSw; go_simp; (try with_reducible rfl))
                            try simp only [Act.put, List.setIfInBounds_toArray, List.set_cons_zero, List.set_cons_succ]
                            refine wpAnyH_take (i := 6) (oi := ⟨some 79, _, _, _, _, _⟩) (v := ?_) rfl (by kernel_rfl) (by kernel_rfl) (by kernel_rfl) (fun _ _ _ h => h) (Or.inl ⟨by rfl, ?_⟩) HS2.out ?_
                            rotate_left
                            · (intro xx hSw; obtain ⟨c0, c1, c2⟩ := HCELL.out _ hSw; go_simp; (try with_reducible rfl))
                            try simp only [Act.put, List.setIfInBounds_toArray, List.set_cons_zero, List.set_cons_succ]
                            refine wpAnyH_take (i := 7) (oi := ⟨some 80, _, _, _, _, _⟩) (v := ?_) rfl (by kernel_rfl) (by kernel_rfl) (by kernel_rfl) (fun _ _ _ h => h) (Or.inl ⟨by rfl, ?_⟩) HS2.out ?_
                            rotate_left
                            · (intro xx hSw; obtain ⟨c0, c1, c2⟩ := HCELL.out _ hSw; go_simp; (try with_reducible rfl))
                            try simp only [Act.put, List.setIfInBounds_toArray, List.set_cons_zero, List.set_cons_succ]
                            refine wpAnyH_ready (rs := [8]) (by kernel_rfl) (by simp) ?_
                            refine AllReadyH.cons (o := ⟨some 11, _, _, _, _, _⟩) rfl (fun K hK => ?_) AllReadyH.nil
                            go_simp
                            obtain ⟨U3, hU⟩ : ∃ V, U2.alloc (.cells #[.int .i64 0, .int .i64 0, .slice none 0 0] 24) = V := ⟨_, rfl⟩
                            rw [hU]
                            have HS3 := Lib.hid (show Below Y3.heap.size Y3 U3 by rw [← hU]; exact HS2.out.alloc HS2.out.size _)
                            have HK3 := Lib.hid (show Below U2.heap.size U2 U3 by rw [← hU]; exact (Below.refl _ _).alloc (Nat.le_refl _) _)
                            have HZB := Lib.hid (show U3.heap[U2.heap.size]? = some (.cells #[.int .i64 0, .int .i64 0, .slice none 0 0] 24) by rw [← hU]; exact World.alloc_heap_new _ _)
                            have HLB := Lib.hid (show U2.heap.size < U3.heap.size by rw [← hU, World.size_alloc]; omega)
                            have HBB := Lib.hid HS2.out.size
                            have HTY := Lib.hid (ty_later HTY.out HK3.out)
                            clear hU
                            refine hK.out _ _ HS3.out (fun _ => ?_)
                            clear hK K
                            try simp only [Act.put, List.setIfInBounds_toArray, List.set_cons_zero, List.set_cons_succ]
                            have hpb := put_box (F := _) (bb := U2.heap.size) HVY.out (kids_right HRY.out) HZB.out HTY.out HS3.out HBB.out rfl
                            obtain ⟨z0, z1, z2, z3, z4, z5⟩ := zero_facts HZB.out
                            have HPB := Lib.hid hpb
                            refine wpAnyH_ready (rs := [9]) (by kernel_rfl) (by simp) ?_
                            refine AllReadyH.cons (o := ⟨none, _, _, _, _, _⟩) rfl (fun K hK => ?_) AllReadyH.nil
                            go_simp
                            refine hK.out _ _ hpb.2 (fun _ => ?_)
                            clear hK K
                            try simp only [Act.put, List.setIfInBounds_toArray, List.set_cons_zero, List.set_cons_succ]
                            refine wpAnyH_take (i := 10) (oi := ⟨some 12, _, _, _, _, _⟩) (v := ?_) rfl (by kernel_rfl) (by kernel_rfl) (by kernel_rfl) (fun _ _ _ h => h) (Or.inl ⟨by rfl, ?_⟩) hpb.2 ?_
                            rotate_left
                            · (intro xx hSw; obtain ⟨c0, c1, c2⟩ := HCELL.out _ hSw; go_simp; (try with_reducible rfl))
                            try simp only [Act.put, List.setIfInBounds_toArray, List.set_cons_zero, List.set_cons_succ]
                            refine wpAnyH_done (by kernel_rfl) ?_ _
                            go_wp2_with fail
                            go_meet
                            case rel => exact ⟨_, _, _, rfl, rfl, HPB.out.1, HPB.out.2⟩
                          · skip
                            go_simp
                            obtain ⟨U2, hU⟩ : ∃ V, U1.alloc (.cells #[.int .i64 0, .int .i64 0, .slice none 0 0] 24) = V := ⟨_, rfl⟩
                            rw [hU]
                            have HS2 := Lib.hid (show Below Y3.heap.size Y3 U2 by rw [← hU]; exact HS1.out.alloc HS1.out.size _)
                            have HK2 := Lib.hid (show Below U1.heap.size U1 U2 by rw [← hU]; exact (Below.refl _ _).alloc (Nat.le_refl _) _)
                            have HZB := Lib.hid (show U2.heap[U1.heap.size]? = some (.cells #[.int .i64 0, .int .i64 0, .slice none 0 0] 24) by rw [← hU]; exact World.alloc_heap_new _ _)
                            have HLB := Lib.hid (show U1.heap.size < U2.heap.size by rw [← hU, World.size_alloc]; omega)
                            have HBB := Lib.hid HS1.out.size
                            have HG := Lib.hid (HG.out.low HK2.out)
                            clear hU
                            refine hK.out _ _ HS2.out (fun _ => ?_)
                            clear hK K
                            try simp only [Act.put, List.setIfInBounds_toArray, List.set_cons_zero, List.set_cons_succ]
                            refine wpAnyH_ready (rs := [4]) (by kernel_rfl) (by simp) ?_
                            refine AllReadyH.cons (o := ⟨some 78, _, _, _, _, _⟩) rfl (fun K hK => ?_) AllReadyH.nil
                            have hsu := subst_any D u k9 n9 m9 b cap' ra rc U2 BU3'.out.says (BU3'.out.later HS2.out).ty HG.out (by have := G5.out; omega) (by have := HSU.out; omega) (fun x hx => by have := (G2.out x hx).2.2; omega)
                            have HSUB := Lib.hid hsu
                            clear hsu
                            go_simp
                            refine HSUB.out.mono ?_
                            rintro e U3 ⟨hb, hcase⟩
                            obtain ⟨_, sa, sc, rfl, ht⟩ := hcase.resolve_right (fun h => by have h1 := h.1; rw [G1.out] at h1; cases h1)
                            rw [HY.out] at ht ⊢
                            rw [tv_of HVY.out]
                            have HK3 := Lib.hid hb
                            have HS3 := Lib.hid (Go.RowKit.Below.tr HS2.out hb (Nat.le_refl _))
                            have HTY := Lib.hid ht
                            clear hb ht hcase HSUB
                            dsimp only
                            have HZB := Lib.hid ((HK3.out.block _ HLB.out).trans HZB.out)
                            have HLB := Lib.hid (Nat.lt_of_lt_of_le HLB.out HK3.out.size)
                            refine hK.out _ _ HS3.out (fun _ => ?_)
                            clear hK K
                            try simp only [Act.put, List.setIfInBounds_toArray, List.set_cons_zero, List.set_cons_succ]
                            refine wpAnyH_take (i := 5) (oi := ⟨some 73, _, _, _, _, _⟩) (v := ?_) rfl (by kernel_rfl) (by kernel_rfl) (by kernel_rfl) (fun _ _ _ h => h) (Or.inl ⟨by rfl, ?_⟩) HS3.out ?_
                            rotate_left
                            · (intro xx hSw; obtain ⟨c0, c1, c2⟩ := HCELL.out _ hSw; go_simp; (try with_reducible rfl))
                            try simp only [Act.put, List.setIfInBounds_toArray, List.set_cons_zero, List.set_cons_succ]
                            refine wpAnyH_take (i := 6) (oi := ⟨some 79, _, _, _, _, _⟩) (v := ?_) rfl (by kernel_rfl) (by kernel_rfl) (by kernel_rfl) (fun _ _ _ h => h) (Or.inl ⟨by rfl, ?_⟩) HS3.out ?_
                            rotate_left
                            · (intro xx hSw; obtain ⟨c0, c1, c2⟩ := HCELL.out _ hSw; go_simp; (try with_reducible rfl))
                            try simp only [Act.put, List.setIfInBounds_toArray, List.set_cons_zero, List.set_cons_succ]
                            refine wpAnyH_take (i := 7) (oi := ⟨some 80, _, _, _, _, _⟩) (v := ?_) rfl (by kernel_rfl) (by kernel_rfl) (by kernel_rfl) (fun _ _ _ h => h) (Or.inl ⟨by rfl, ?_⟩) HS3.out ?_
                            rotate_left
                            · (intro xx hSw; obtain ⟨c0, c1, c2⟩ := HCELL.out _ hSw; go_simp; (try with_reducible rfl))
                            try simp only [Act.put, List.setIfInBounds_toArray, List.set_cons_zero, List.set_cons_succ]
                            have hpb := put_box (F := _) (bb := U1.heap.size) HVY.out (kids_right HRY.out) HZB.out HTY.out HS3.out HBB.out rfl
                            obtain ⟨z0, z1, z2, z3, z4, z5⟩ := zero_facts HZB.out
                            have HPB := Lib.hid hpb
                            refine wpAnyH_ready (rs := [9]) (by kernel_rfl) (by simp) ?_
                            refine AllReadyH.cons (o := ⟨none, _, _, _, _, _⟩) rfl (fun K hK => ?_) AllReadyH.nil
                            go_simp
                            refine hK.out _ _ hpb.2 (fun _ => ?_)
                            clear hK K
                            try simp only [Act.put, List.setIfInBounds_toArray, List.set_cons_zero, List.set_cons_succ]
                            refine wpAnyH_take (i := 10) (oi := ⟨some 12, _, _, _, _, _⟩) (v := ?_) rfl (by kernel_rfl) (by kernel_rfl) (by kernel_rfl) (fun _ _ _ h => h) (Or.inl ⟨by rfl, ?_⟩) hpb.2 ?_
                            rotate_left
                            · (intro xx hSw; obtain ⟨c0, c1, c2⟩ := HCELL.out _ hSw; go_simp; (try with_reducible rfl))
                            try simp only [Act.put, List.setIfInBounds_toArray, List.set_cons_zero, List.set_cons_succ]
                            refine wpAnyH_done (by kernel_rfl) ?_ _
                            go_wp2_with fail
                            go_meet
                            case rel => exact ⟨_, _, _, rfl, rfl, HPB.out.1, HPB.out.2⟩
                        · skip
                          go_simp
                          obtain ⟨U1, hU⟩ : ∃ V, U0.alloc (.cells #[.int .i64 0, .int .i64 0, .slice none 0 0] 24) = V := ⟨_, rfl⟩
                          rw [hU]
                          have HS1 := Lib.hid (show Below Y3.heap.size Y3 U1 by rw [← hU]; exact HS0.out.alloc HS0.out.size _)
                          have HK1 := Lib.hid (show Below U0.heap.size U0 U1 by rw [← hU]; exact (Below.refl _ _).alloc (Nat.le_refl _) _)
                          have HZB := Lib.hid (show U1.heap[U0.heap.size]? = some (.cells #[.int .i64 0, .int .i64 0, .slice none 0 0] 24) by rw [← hU]; exact World.alloc_heap_new _ _)
                          have HLB := Lib.hid (show U0.heap.size < U1.heap.size by rw [← hU, World.size_alloc]; omega)
                          have HBB := Lib.hid HS0.out.size
                          clear hU
                          refine hK.out _ _ HS1.out (fun _ => ?_)
                          clear hK K
                          try simp only [Act.put, List.setIfInBounds_toArray, List.set_cons_zero, List.set_cons_succ]
                          refine wpAnyH_ready (rs := [3]) (by kernel_rfl) (by simp) ?_
                          refine AllReadyH.cons (o := ⟨some 77, _, _, _, _, _⟩) rfl (fun K hK => ?_) AllReadyH.nil
                          go_simp
                          refine (HCM.out _ (Go.RowKit.Below.tr HBA.out HS1.out (Nat.le_refl _))).mono ?_
                          rintro e U2 ⟨vv, bs, rfl, hrow, hbs, hb⟩
                          obtain ⟨ra, rc, rfl⟩ := own_shapeT hrow.own
                          obtain ⟨g1, g2, g3, g4⟩ := hrow.binds
                          rw [hbs] at g4
                          have hbl : bs.length = D.length := by rw [← hbs, List.length_map]
                          rw [hbl]
                          have HK2 := Lib.hid hb
                          have HS2 := Lib.hid (Go.RowKit.Below.tr HS1.out hb (Nat.le_refl _))
                          have HG := Lib.hid g4
                          clear hb hrow hbs g1 g2 g3 g4 hbl
                          dsimp only
                          have HZB := Lib.hid ((HK2.out.block _ HLB.out).trans HZB.out)
                          have HLB := Lib.hid (Nat.lt_of_lt_of_le HLB.out HK2.out.size)
                          refine hK.out _ _ HS2.out (fun _ => ?_)
                          clear hK K
                          try simp only [Act.put, List.setIfInBounds_toArray, List.set_cons_zero, List.set_cons_succ]
                          refine wpAnyH_ready (rs := [4]) (by kernel_rfl) (by simp) ?_
                          refine AllReadyH.cons (o := ⟨some 78, _, _, _, _, _⟩) rfl (fun K hK => ?_) AllReadyH.nil
                          have hsu := subst_any D u k9 n9 m9 b cap' ra rc U2 BU3'.out.says (BU3'.out.later HS2.out).ty HG.out (by have := G5.out; omega) (by have := HSU.out; omega) (fun x hx => by have := (G2.out x hx).2.2; omega)
                          have HSUB := Lib.hid hsu
                          clear hsu
                          go_simp
                          refine HSUB.out.mono ?_
                          rintro e U3 ⟨hb, hcase⟩
                          obtain ⟨_, sa, sc, rfl, ht⟩ := hcase.resolve_right (fun h => by have h1 := h.1; rw [G1.out] at h1; cases h1)
                          rw [HY.out] at ht ⊢
                          rw [tv_of HVY.out]
                          have HK3 := Lib.hid hb
                          have HS3 := Lib.hid (Go.RowKit.Below.tr HS2.out hb (Nat.le_refl _))
                          have HTY := Lib.hid ht
                          clear hb ht hcase HSUB
                          dsimp only
                          have HZB := Lib.hid ((HK3.out.block _ HLB.out).trans HZB.out)
                          have HLB := Lib.hid (Nat.lt_of_lt_of_le HLB.out HK3.out.size)
                          refine hK.out _ _ HS3.out (fun _ => ?_)
                          clear hK K
                          try simp only [Act.put, List.setIfInBounds_toArray, List.set_cons_zero, List.set_cons_succ]
                          refine wpAnyH_take (i := 5) (oi := ⟨some 73, _, _, _, _, _⟩) (v := ?_) rfl (by kernel_rfl) (by kernel_rfl) (by kernel_rfl) (fun _ _ _ h => h) (Or.inl ⟨by rfl, ?_⟩) HS3.out ?_
                          rotate_left
                          · (intro xx hSw; obtain ⟨c0, c1, c2⟩ := HCELL.out _ hSw; go_simp; (try with_reducible rfl))
                          try simp only [Act.put, List.setIfInBounds_toArray, List.set_cons_zero, List.set_cons_succ]
                          refine wpAnyH_take (i := 6) (oi := ⟨some 79, _, _, _, _, _⟩) (v := ?_) rfl (by kernel_rfl) (by kernel_rfl) (by kernel_rfl) (fun _ _ _ h => h) (Or.inl ⟨by rfl, ?_⟩) HS3.out ?_
                          rotate_left
                          · (intro xx hSw; obtain ⟨c0, c1, c2⟩ := HCELL.out _ hSw; go_simp; (try with_reducible rfl))
                          try simp only [Act.put, List.setIfInBounds_toArray, List.set_cons_zero, List.set_cons_succ]
                          refine wpAnyH_take (i := 7) (oi := ⟨some 80, _, _, _, _, _⟩) (v := ?_) rfl (by kernel_rfl) (by kernel_rfl) (by kernel_rfl) (fun _ _ _ h => h) (Or.inl ⟨by rfl, ?_⟩) HS3.out ?_
                          rotate_left
                          · (intro xx hSw; obtain ⟨c0, c1, c2⟩ := HCELL.out _ hSw; go_simp; (try with_reducible rfl))
                          try simp only [Act.put, List.setIfInBounds_toArray, List.set_cons_zero, List.set_cons_succ]
                          have hpb := put_box (F := _) (bb := U0.heap.size) HVY.out (kids_right HRY.out) HZB.out HTY.out HS3.out HBB.out rfl
                          obtain ⟨z0, z1, z2, z3, z4, z5⟩ := zero_facts HZB.out
                          have HPB := Lib.hid hpb
                          refine wpAnyH_ready (rs := [9]) (by kernel_rfl) (by simp) ?_
                          refine AllReadyH.cons (o := ⟨none, _, _, _, _, _⟩) rfl (fun K hK => ?_) AllReadyH.nil
                          go_simp
                          refine hK.out _ _ hpb.2 (fun _ => ?_)
                          clear hK K
                          try simp only [Act.put, List.setIfInBounds_toArray, List.set_cons_zero, List.set_cons_succ]
                          refine wpAnyH_take (i := 10) (oi := ⟨some 12, _, _, _, _, _⟩) (v := ?_) rfl (by kernel_rfl) (by kernel_rfl) (by kernel_rfl) (fun _ _ _ h => h) (Or.inl ⟨by rfl, ?_⟩) hpb.2 ?_
                          rotate_left
                          · (intro xx hSw; obtain ⟨c0, c1, c2⟩ := HCELL.out _ hSw; go_simp; (try with_reducible rfl))
                          try simp only [Act.put, List.setIfInBounds_toArray, List.set_cons_zero, List.set_cons_succ]
                          refine wpAnyH_done (by kernel_rfl) ?_ _
                          go_wp2_with fail
                          go_meet
                          case rel => exact ⟨_, _, _, rfl, rfl, HPB.out.1, HPB.out.2⟩
                      case rest =>
                      obtain ⟨bby, say, scy, rfl, rfl, bw, hb⟩ := hcut
                      have BZ4 := Lib.hid (BZ3.out.later hb); have BY4 := Lib.hid bw; have BX4' := Lib.hid (BX3'.out.later hb); have BU4' := Lib.hid (BU3'.out.later hb); have HB4' := Lib.hid (HB3'.out.tr hb (Nat.le_refl _))
                      clear bw hb HCELL
                      obtain ⟨Y4, hY4⟩ : ∃ q, wc = q := ⟨_, rfl⟩
                      rw [hY4] at BZ4 BY4 BX4' BU4' HB4' ⊢
                      clear hY4
                      obtain ⟨zb, hzb⟩ : ∃ z, Tp.bl x y = z := ⟨_, rfl⟩
                      have HQ1 := Q1.out
                      have HQ2 := Q2.out
                      rw [hzb] at HQ1 HQ2
                      have hux := fun q (h : Below Y4.heap.size Y4 q) => under_ub (w := q) (BZ4.out.later h).says (BY4.out.later h).says (BZ4.out.later h).ty (BY4.out.later h).ty (by have := HSX.out; have := HSY.out; omega)
                      have hbx := fun q (h : Below Y4.heap.size Y4 q) => bl_any (w := q) (BZ4.out.later h).says (BY4.out.later h).says (BZ4.out.later h).ty (BY4.out.later h).ty (by have := HSX.out; omega) (by have := HSY.out; omega)
                      simp only [HQ1] at hux
                      simp only [hzb] at hbx
                      have HUX := Lib.hid hux; have HBX := Lib.hid hbx; have HBd := Lib.hid (Below.refl Y4.heap.size Y4).drew; have HUB := Lib.hid HQ2
                      have HLE := Lib.hid (fun q (h : Below Y4.heap.size Y4 q) => h.size)
                      have HCELL := Lib.hid (fun q (h : Below Y4.heap.size Y4 q) => (⟨(BX4'.out.later h).cells, (BU4'.out.later h).cells, (BZ4.out.later h).cells, (BY4.out.later h).cells⟩ : _ ∧ _ ∧ _ ∧ _))
                      clear hux hbx hzb HQ1 HQ2
                      go_upto_region 5 with fail
                      obtain ⟨⟨c0, c1, c2⟩, ⟨d0, d1, d2⟩, ⟨e0, e1, e2⟩, ⟨g0, g1, g2⟩⟩ := HCELL.out _ HBd.out
                      refine wp_region_seq [(0, false), (0, false), (0, false), (0, false), (0, false), (0, false), (0, false), (0, false), (0, false), (1, false), (1, false), (0, true), (0, true), (0, false), (0, false)] (by kernel_rfl) (by kernel_rfl) (by kernel_rfl) (fun _ _ _ d _ h => by cases d <;> exact h) ?_
                      repeat
                        first
                        | (first | with_reducible refine sp0 (fun K hK => ?_) | with_reducible refine sp1 (fun K hK => ?_) | with_reducible refine sp2 (fun K hK => ?_) | with_reducible refine sp3 (fun K hK => ?_) | with_reducible refine sp4 (fun K hK => ?_)
                           go_simp
                           first
                           | (with_reducible refine hK _ _ ?_; clear hK K)
                           | (with_reducible apply Exists.intro
                              refine ⟨fun x hx => ?_, hK _ _ ?_⟩
                              first
                                | (with_reducible exact rfl)
                                | (have y0 := keepc hx c0; have y1 := keepc hx c1; have y2 := keepc hx c2; have y3 := keepc hx d0; have y4 := keepc hx d1; have y5 := keepc hx d2; have y6 := keepc hx e0; have y7 := keepc hx e1; have y8 := keepc hx e2; have y9 := keepc hx g0; have y10 := keepc hx g1; have y11 := keepc hx g2; go_simp; done)
                                | (have y0 := keepc hx c0; have y1 := keepc hx c1; have y2 := keepc hx c2; have y3 := keepc hx d0; have y4 := keepc hx d1; have y5 := keepc hx d2; have y6 := keepc hx e0; have y7 := keepc hx e1; have y8 := keepc hx e2; have y9 := keepc hx g0; have y10 := keepc hx g1; have y11 := keepc hx g2; go_simp; with_reducible exact rfl)
                              clear hK K))
                        | (first | with_reducible refine sk0 ?_ (fun K hK => ?_) | with_reducible refine sk1 ?_ (fun K hK => ?_) | with_reducible refine sk2 ?_ (fun K hK => ?_) | with_reducible refine sk3 ?_ (fun K hK => ?_) | with_reducible refine sk4 ?_ (fun K hK => ?_)
                           rfl
                           go_simp
                           with_reducible refine hK _ _ ?_
                           clear hK K)
                      first | with_reducible refine sc0 (fun K hK => ?_) | with_reducible refine sc1 (fun K hK => ?_) | with_reducible refine sc2 (fun K hK => ?_) | with_reducible refine sc3 (fun K hK => ?_) | with_reducible refine sc4 (fun K hK => ?_)
                      go_simp
                      refine (HUX.out _ HBd.out).mono ?_
                      clear c0 c1 c2 d0 d1 d2 e0 e1 e2 g0 g1 g2
                      rintro e x0 ⟨rfl, hb9⟩
                      refine ⟨hb9, hK _ _ ?_⟩
                      clear hK K
                      have HX0 := Lib.hid (HBd.out.trans (hb9.mono (HLE.out _ HBd.out)))
                      clear hb9
                      obtain ⟨⟨c0, c1, c2⟩, ⟨d0, d1, d2⟩, ⟨e0, e1, e2⟩, ⟨g0, g1, g2⟩⟩ := HCELL.out x0 HX0.out
                      repeat
                        first
                        | (first | with_reducible refine sp0 (fun K hK => ?_) | with_reducible refine sp1 (fun K hK => ?_) | with_reducible refine sp2 (fun K hK => ?_) | with_reducible refine sp3 (fun K hK => ?_) | with_reducible refine sp4 (fun K hK => ?_)
                           go_simp
                           first
                           | (with_reducible refine hK _ _ ?_; clear hK K)
                           | (with_reducible apply Exists.intro
                              refine ⟨fun x hx => ?_, hK _ _ ?_⟩
                              first
                                | (with_reducible exact rfl)
                                | (have y0 := keepc hx c0; have y1 := keepc hx c1; have y2 := keepc hx c2; have y3 := keepc hx d0; have y4 := keepc hx d1; have y5 := keepc hx d2; have y6 := keepc hx e0; have y7 := keepc hx e1; have y8 := keepc hx e2; have y9 := keepc hx g0; have y10 := keepc hx g1; have y11 := keepc hx g2; go_simp; done)
                                | (have y0 := keepc hx c0; have y1 := keepc hx c1; have y2 := keepc hx c2; have y3 := keepc hx d0; have y4 := keepc hx d1; have y5 := keepc hx d2; have y6 := keepc hx e0; have y7 := keepc hx e1; have y8 := keepc hx e2; have y9 := keepc hx g0; have y10 := keepc hx g1; have y11 := keepc hx g2; go_simp; with_reducible exact rfl)
                              clear hK K))
                        | (first | with_reducible refine sk0 ?_ (fun K hK => ?_) | with_reducible refine sk1 ?_ (fun K hK => ?_) | with_reducible refine sk2 ?_ (fun K hK => ?_) | with_reducible refine sk3 ?_ (fun K hK => ?_) | with_reducible refine sk4 ?_ (fun K hK => ?_)
                           rfl
                           go_simp
                           with_reducible refine hK _ _ ?_
                           clear hK K)
                      first | with_reducible refine sc0 (fun K hK => ?_) | with_reducible refine sc1 (fun K hK => ?_) | with_reducible refine sc2 (fun K hK => ?_) | with_reducible refine sc3 (fun K hK => ?_) | with_reducible refine sc4 (fun K hK => ?_)
                      go_simp
                      refine (HBX.out _ HX0.out).mono ?_
                      clear c0 c1 c2 d0 d1 d2 e0 e1 e2 g0 g1 g2
                      rintro e x1 ⟨rfl, hb9⟩
                      refine ⟨hb9, hK _ _ ?_⟩
                      clear hK K
                      have HX1 := Lib.hid (HX0.out.trans (hb9.mono (HLE.out _ HX0.out)))
                      clear hb9
                      obtain ⟨⟨c0, c1, c2⟩, ⟨d0, d1, d2⟩, ⟨e0, e1, e2⟩, ⟨g0, g1, g2⟩⟩ := HCELL.out x1 HX1.out
                      repeat
                        first
                        | (first | with_reducible refine sp0 (fun K hK => ?_) | with_reducible refine sp1 (fun K hK => ?_) | with_reducible refine sp2 (fun K hK => ?_) | with_reducible refine sp3 (fun K hK => ?_) | with_reducible refine sp4 (fun K hK => ?_)
                           go_simp
                           first
                           | (with_reducible refine hK _ _ ?_; clear hK K)
                           | (with_reducible apply Exists.intro
                              refine ⟨fun x hx => ?_, hK _ _ ?_⟩
                              first
                                | (with_reducible exact rfl)
                                | (have y0 := keepc hx c0; have y1 := keepc hx c1; have y2 := keepc hx c2; have y3 := keepc hx d0; have y4 := keepc hx d1; have y5 := keepc hx d2; have y6 := keepc hx e0; have y7 := keepc hx e1; have y8 := keepc hx e2; have y9 := keepc hx g0; have y10 := keepc hx g1; have y11 := keepc hx g2; go_simp; done)
                                | (have y0 := keepc hx c0; have y1 := keepc hx c1; have y2 := keepc hx c2; have y3 := keepc hx d0; have y4 := keepc hx d1; have y5 := keepc hx d2; have y6 := keepc hx e0; have y7 := keepc hx e1; have y8 := keepc hx e2; have y9 := keepc hx g0; have y10 := keepc hx g1; have y11 := keepc hx g2; go_simp; with_reducible exact rfl)
                              clear hK K))
                        | (first | with_reducible refine sk0 ?_ (fun K hK => ?_) | with_reducible refine sk1 ?_ (fun K hK => ?_) | with_reducible refine sk2 ?_ (fun K hK => ?_) | with_reducible refine sk3 ?_ (fun K hK => ?_) | with_reducible refine sk4 ?_ (fun K hK => ?_)
                           rfl
                           go_simp
                           with_reducible refine hK _ _ ?_
                           clear hK K)
                      with_reducible refine seq_nil ?_
                      try simp only [bne_self_eq_false]
                      have HLF := Lib.hid (fun q => leaf_any 5 q)
                      have hud := fun q ga gc (h : Below Y4.heap.size Y4 q) (hd : TyAt (LT q.heap.size) q (.mk 5 0 []) ga gc) => under_ub (w := q) (t := t) (u := .mk 5 0 []) (k' := 5) (n' := 0) (m' := 0) (BX4'.out.later h).says ⟨rfl, rfl, rfl⟩ (BX4'.out.later h).ty hd (by have := HST.out; simp only [Tp.size, Tp.sizes]; omega)
                      simp only [under_dyn HPRT.out] at hud
                      have HUD := Lib.hid (fun q (h : Below Y4.heap.size Y4 q) => hud q none 0 h ⟨(show I64 5 from i64_nat (by decide) (by decide)), (show I64 0 from i64_nat (by decide) (by decide)), Nat.le_refl _, Nat.zero_le _, (show KidsAt _ q [] none by simp [KidsAt])⟩)
                      clear hud
                      have HWAK := Lib.hid (fun q (_ : Below Y4.heap.size Y4 q) => wakes11_any q)
                      cases zb with
                      | false =>
                        go_upto_region 7 with fail
                        go_wp2_with (first | (go_at_call 31; (with_reducible refine (HBX.out _ HX1.out).mono ?_); clear c0 c1 c2 d0 d1 d2 e0 e1 e2 g0 g1 g2; rintro e xw ⟨rfl, hb⟩; have HX2 := Lib.hid (HX1.out.tr hb (Nat.le_refl _)); clear hb))
                        skip
                        have HBe := Lib.hid HX2.out.drew
                        obtain ⟨⟨c0, c1, c2⟩, ⟨d0, d1, d2⟩, ⟨e0, e1, e2⟩, ⟨g0, g1, g2⟩⟩ := HCELL.out _ HBe.out
                        refine wp_region_seq [(0, false), (0, true), (0, true), (0, false), (0, true), (0, false), (0, false)] (by kernel_rfl) (by kernel_rfl) (by kernel_rfl) (fun _ _ _ d _ h => by cases d <;> exact h) ?_
                        repeat
                          first
                          | (first | with_reducible refine sp0 (fun K hK => ?_) | with_reducible refine sp1 (fun K hK => ?_) | with_reducible refine sp2 (fun K hK => ?_) | with_reducible refine sp3 (fun K hK => ?_) | with_reducible refine sp4 (fun K hK => ?_)
                             go_simp
                             first
                             | (with_reducible refine hK _ _ ?_; clear hK K)
                             | (with_reducible apply Exists.intro
                                refine ⟨fun x hx => ?_, hK _ _ ?_⟩
                                first
                                  | (with_reducible exact rfl)
                                  | (have y0 := keepc hx c0; have y1 := keepc hx c1; have y2 := keepc hx c2; have y3 := keepc hx d0; have y4 := keepc hx d1; have y5 := keepc hx d2; have y6 := keepc hx e0; have y7 := keepc hx e1; have y8 := keepc hx e2; have y9 := keepc hx g0; have y10 := keepc hx g1; have y11 := keepc hx g2; go_simp; done)
                                  | (have y0 := keepc hx c0; have y1 := keepc hx c1; have y2 := keepc hx c2; have y3 := keepc hx d0; have y4 := keepc hx d1; have y5 := keepc hx d2; have y6 := keepc hx e0; have y7 := keepc hx e1; have y8 := keepc hx e2; have y9 := keepc hx g0; have y10 := keepc hx g1; have y11 := keepc hx g2; go_simp; with_reducible exact rfl)
                                clear hK K))
                          | (first | with_reducible refine sk0 ?_ (fun K hK => ?_) | with_reducible refine sk1 ?_ (fun K hK => ?_) | with_reducible refine sk2 ?_ (fun K hK => ?_) | with_reducible refine sk3 ?_ (fun K hK => ?_) | with_reducible refine sk4 ?_ (fun K hK => ?_)
                             rfl
                             go_simp
                             with_reducible refine hK _ _ ?_
                             clear hK K)
                        first | with_reducible refine sc0 (fun K hK => ?_) | with_reducible refine sc1 (fun K hK => ?_) | with_reducible refine sc2 (fun K hK => ?_) | with_reducible refine sc3 (fun K hK => ?_) | with_reducible refine sc4 (fun K hK => ?_)
                        go_simp
                        refine (HLF.out _).mono ?_
                        clear c0 c1 c2 d0 d1 d2 e0 e1 e2 g0 g1 g2
                        rintro e s0 ⟨rfl, hb9⟩
                        refine ⟨hb9, hK _ _ ?_⟩
                        clear hK K
                        have HS0 := Lib.hid (HBe.out.trans (hb9.mono (HLE.out _ HBe.out)))
                        clear hb9
                        obtain ⟨⟨c0, c1, c2⟩, ⟨d0, d1, d2⟩, ⟨e0, e1, e2⟩, ⟨g0, g1, g2⟩⟩ := HCELL.out s0 HS0.out
                        repeat
                          first
                          | (first | with_reducible refine sp0 (fun K hK => ?_) | with_reducible refine sp1 (fun K hK => ?_) | with_reducible refine sp2 (fun K hK => ?_) | with_reducible refine sp3 (fun K hK => ?_) | with_reducible refine sp4 (fun K hK => ?_)
                             go_simp
                             first
                             | (with_reducible refine hK _ _ ?_; clear hK K)
                             | (with_reducible apply Exists.intro
                                refine ⟨fun x hx => ?_, hK _ _ ?_⟩
                                first
                                  | (with_reducible exact rfl)
                                  | (have y0 := keepc hx c0; have y1 := keepc hx c1; have y2 := keepc hx c2; have y3 := keepc hx d0; have y4 := keepc hx d1; have y5 := keepc hx d2; have y6 := keepc hx e0; have y7 := keepc hx e1; have y8 := keepc hx e2; have y9 := keepc hx g0; have y10 := keepc hx g1; have y11 := keepc hx g2; go_simp; done)
                                  | (have y0 := keepc hx c0; have y1 := keepc hx c1; have y2 := keepc hx c2; have y3 := keepc hx d0; have y4 := keepc hx d1; have y5 := keepc hx d2; have y6 := keepc hx e0; have y7 := keepc hx e1; have y8 := keepc hx e2; have y9 := keepc hx g0; have y10 := keepc hx g1; have y11 := keepc hx g2; go_simp; with_reducible exact rfl)
                                clear hK K))
                          | (first | with_reducible refine sk0 ?_ (fun K hK => ?_) | with_reducible refine sk1 ?_ (fun K hK => ?_) | with_reducible refine sk2 ?_ (fun K hK => ?_) | with_reducible refine sk3 ?_ (fun K hK => ?_) | with_reducible refine sk4 ?_ (fun K hK => ?_)
                             rfl
                             go_simp
                             with_reducible refine hK _ _ ?_
                             clear hK K)
                        first | with_reducible refine sc0 (fun K hK => ?_) | with_reducible refine sc1 (fun K hK => ?_) | with_reducible refine sc2 (fun K hK => ?_) | with_reducible refine sc3 (fun K hK => ?_) | with_reducible refine sc4 (fun K hK => ?_)
                        go_simp
                        refine (HUD.out _ HS0.out).mono ?_
                        clear c0 c1 c2 d0 d1 d2 e0 e1 e2 g0 g1 g2
                        rintro e s1 ⟨rfl, hb9⟩
                        refine ⟨hb9, hK _ _ ?_⟩
                        clear hK K
                        have HS1 := Lib.hid (HS0.out.trans (hb9.mono (HLE.out _ HS0.out)))
                        clear hb9
                        obtain ⟨⟨c0, c1, c2⟩, ⟨d0, d1, d2⟩, ⟨e0, e1, e2⟩, ⟨g0, g1, g2⟩⟩ := HCELL.out s1 HS1.out
                        repeat
                          first
                          | (first | with_reducible refine sp0 (fun K hK => ?_) | with_reducible refine sp1 (fun K hK => ?_) | with_reducible refine sp2 (fun K hK => ?_) | with_reducible refine sp3 (fun K hK => ?_) | with_reducible refine sp4 (fun K hK => ?_)
                             go_simp
                             first
                             | (with_reducible refine hK _ _ ?_; clear hK K)
                             | (with_reducible apply Exists.intro
                                refine ⟨fun x hx => ?_, hK _ _ ?_⟩
                                first
                                  | (with_reducible exact rfl)
                                  | (have y0 := keepc hx c0; have y1 := keepc hx c1; have y2 := keepc hx c2; have y3 := keepc hx d0; have y4 := keepc hx d1; have y5 := keepc hx d2; have y6 := keepc hx e0; have y7 := keepc hx e1; have y8 := keepc hx e2; have y9 := keepc hx g0; have y10 := keepc hx g1; have y11 := keepc hx g2; go_simp; done)
                                  | (have y0 := keepc hx c0; have y1 := keepc hx c1; have y2 := keepc hx c2; have y3 := keepc hx d0; have y4 := keepc hx d1; have y5 := keepc hx d2; have y6 := keepc hx e0; have y7 := keepc hx e1; have y8 := keepc hx e2; have y9 := keepc hx g0; have y10 := keepc hx g1; have y11 := keepc hx g2; go_simp; with_reducible exact rfl)
                                clear hK K))
                          | (first | with_reducible refine sk0 ?_ (fun K hK => ?_) | with_reducible refine sk1 ?_ (fun K hK => ?_) | with_reducible refine sk2 ?_ (fun K hK => ?_) | with_reducible refine sk3 ?_ (fun K hK => ?_) | with_reducible refine sk4 ?_ (fun K hK => ?_)
                             rfl
                             go_simp
                             with_reducible refine hK _ _ ?_
                             clear hK K)
                        first | with_reducible refine sc0 (fun K hK => ?_) | with_reducible refine sc1 (fun K hK => ?_) | with_reducible refine sc2 (fun K hK => ?_) | with_reducible refine sc3 (fun K hK => ?_) | with_reducible refine sc4 (fun K hK => ?_)
                        go_simp
                        refine (HWAK.out _ HS1.out).mono ?_
                        clear c0 c1 c2 d0 d1 d2 e0 e1 e2 g0 g1 g2
                        rintro e s2 ⟨rfl, hb9⟩
                        refine ⟨hb9, hK _ _ ?_⟩
                        clear hK K
                        have HS2 := Lib.hid (HS1.out.trans (hb9.mono (HLE.out _ HS1.out)))
                        clear hb9
                        repeat
                          first
                          | (first | with_reducible refine sp0 (fun K hK => ?_) | with_reducible refine sp1 (fun K hK => ?_) | with_reducible refine sp2 (fun K hK => ?_) | with_reducible refine sp3 (fun K hK => ?_) | with_reducible refine sp4 (fun K hK => ?_)
                             go_simp
                             first
                             | (with_reducible refine hK _ _ ?_; clear hK K)
                             | (with_reducible apply Exists.intro
                                refine ⟨fun x hx => ?_, hK _ _ ?_⟩
                                first
                                  | (with_reducible exact rfl)
                                clear hK K))
                          | (first | with_reducible refine sk0 ?_ (fun K hK => ?_) | with_reducible refine sk1 ?_ (fun K hK => ?_) | with_reducible refine sk2 ?_ (fun K hK => ?_) | with_reducible refine sk3 ?_ (fun K hK => ?_) | with_reducible refine sk4 ?_ (fun K hK => ?_)
                             rfl
                             go_simp
                             with_reducible refine hK _ _ ?_
                             clear hK K)
                        with_reducible refine seq_nil ?_
                        go_wp2_with fail
                        go_ret
                        exact ⟨rfl, HB4'.out.tr HS2.out (Nat.le_refl _)⟩
                      | true =>
                        obtain ⟨u1, u2, u3⟩ := HUB.out rfl
                        have h1 := fun q (h : Below Y4.heap.size Y4 q) => under_ub (w := q) (BX4'.out.later h).says (BU4'.out.later h).says (BX4'.out.later h).ty (BU4'.out.later h).ty (by have := HST.out; have := HSU.out; omega)
                        have h2 := fun q (h : Below Y4.heap.size Y4 q) => under_ub (w := q) (BZ4.out.later h).says (BU4'.out.later h).says (BZ4.out.later h).ty (BU4'.out.later h).ty (by have := HSX.out; have := HSU.out; omega)
                        have h3 := fun q (h : Below Y4.heap.size Y4 q) => under_ub (w := q) (BX4'.out.later h).says (BY4.out.later h).says (BX4'.out.later h).ty (BY4.out.later h).ty (by have := HST.out; have := HSY.out; omega)
                        simp only [u1] at h1
                        simp only [u2] at h2
                        simp only [u3] at h3
                        have H1 := Lib.hid h1; have H2 := Lib.hid h2; have H3 := Lib.hid h3
                        clear h1 h2 h3 u1 u2 u3
                        go_upto_region 7 with fail
                        go_wp2_with (first | (go_at_call 31; (with_reducible refine (HBX.out _ HX1.out).mono ?_); clear c0 c1 c2 d0 d1 d2 e0 e1 e2 g0 g1 g2; rintro e xw ⟨rfl, hb⟩; have HX1 := Lib.hid (HX1.out.tr hb (Nat.le_refl _)); clear hb; obtain ⟨⟨c0, c1, c2⟩, ⟨d0, d1, d2⟩, ⟨e0, e1, e2⟩, ⟨g0, g1, g2⟩⟩ := HCELL.out _ HX1.out) | (go_at_call 16; (first | with_reducible refine (H1.out _ HX1.out).mono ?_ | with_reducible refine (H2.out _ HX1.out).mono ?_ | with_reducible refine (H3.out _ HX1.out).mono ?_); clear c0 c1 c2 d0 d1 d2 e0 e1 e2 g0 g1 g2; rintro e xw ⟨rfl, hb⟩; have HX1 := Lib.hid (HX1.out.tr hb (Nat.le_refl _)); clear hb; obtain ⟨⟨c0, c1, c2⟩, ⟨d0, d1, d2⟩, ⟨e0, e1, e2⟩, ⟨g0, g1, g2⟩⟩ := HCELL.out _ HX1.out))
                        clear c0 c1 c2 d0 d1 d2 e0 e1 e2 g0 g1 g2
                        skip
                        have HBe := Lib.hid HX1.out.drew
                        obtain ⟨⟨c0, c1, c2⟩, ⟨d0, d1, d2⟩, ⟨e0, e1, e2⟩, ⟨g0, g1, g2⟩⟩ := HCELL.out _ HBe.out
                        refine wp_region_seq [(0, false), (0, true), (0, true), (0, false), (0, true), (0, false), (0, false)] (by kernel_rfl) (by kernel_rfl) (by kernel_rfl) (fun _ _ _ d _ h => by cases d <;> exact h) ?_
                        repeat
                          first
                          | (first | with_reducible refine sp0 (fun K hK => ?_) | with_reducible refine sp1 (fun K hK => ?_) | with_reducible refine sp2 (fun K hK => ?_) | with_reducible refine sp3 (fun K hK => ?_) | with_reducible refine sp4 (fun K hK => ?_)
                             go_simp
                             first
                             | (with_reducible refine hK _ _ ?_; clear hK K)
                             | (with_reducible apply Exists.intro
                                refine ⟨fun x hx => ?_, hK _ _ ?_⟩
                                first
                                  | (with_reducible exact rfl)
                                  | (have y0 := keepc hx c0; have y1 := keepc hx c1; have y2 := keepc hx c2; have y3 := keepc hx d0; have y4 := keepc hx d1; have y5 := keepc hx d2; have y6 := keepc hx e0; have y7 := keepc hx e1; have y8 := keepc hx e2; have y9 := keepc hx g0; have y10 := keepc hx g1; have y11 := keepc hx g2; go_simp; done)
                                  | (have y0 := keepc hx c0; have y1 := keepc hx c1; have y2 := keepc hx c2; have y3 := keepc hx d0; have y4 := keepc hx d1; have y5 := keepc hx d2; have y6 := keepc hx e0; have y7 := keepc hx e1; have y8 := keepc hx e2; have y9 := keepc hx g0; have y10 := keepc hx g1; have y11 := keepc hx g2; go_simp; with_reducible exact rfl)
                                clear hK K))
                          | (first | with_reducible refine sk0 ?_ (fun K hK => ?_) | with_reducible refine sk1 ?_ (fun K hK => ?_) | with_reducible refine sk2 ?_ (fun K hK => ?_) | with_reducible refine sk3 ?_ (fun K hK => ?_) | with_reducible refine sk4 ?_ (fun K hK => ?_)
                             rfl
                             go_simp
                             with_reducible refine hK _ _ ?_
                             clear hK K)
                        first | with_reducible refine sc0 (fun K hK => ?_) | with_reducible refine sc1 (fun K hK => ?_) | with_reducible refine sc2 (fun K hK => ?_) | with_reducible refine sc3 (fun K hK => ?_) | with_reducible refine sc4 (fun K hK => ?_)
                        go_simp
                        refine (HLF.out _).mono ?_
                        clear c0 c1 c2 d0 d1 d2 e0 e1 e2 g0 g1 g2
                        rintro e s0 ⟨rfl, hb9⟩
                        refine ⟨hb9, hK _ _ ?_⟩
                        clear hK K
                        have HS0 := Lib.hid (HBe.out.trans (hb9.mono (HLE.out _ HBe.out)))
                        clear hb9
                        obtain ⟨⟨c0, c1, c2⟩, ⟨d0, d1, d2⟩, ⟨e0, e1, e2⟩, ⟨g0, g1, g2⟩⟩ := HCELL.out s0 HS0.out
                        repeat
                          first
                          | (first | with_reducible refine sp0 (fun K hK => ?_) | with_reducible refine sp1 (fun K hK => ?_) | with_reducible refine sp2 (fun K hK => ?_) | with_reducible refine sp3 (fun K hK => ?_) | with_reducible refine sp4 (fun K hK => ?_)
                             go_simp
                             first
                             | (with_reducible refine hK _ _ ?_; clear hK K)
                             | (with_reducible apply Exists.intro
                                refine ⟨fun x hx => ?_, hK _ _ ?_⟩
                                first
                                  | (with_reducible exact rfl)
                                  | (have y0 := keepc hx c0; have y1 := keepc hx c1; have y2 := keepc hx c2; have y3 := keepc hx d0; have y4 := keepc hx d1; have y5 := keepc hx d2; have y6 := keepc hx e0; have y7 := keepc hx e1; have y8 := keepc hx e2; have y9 := keepc hx g0; have y10 := keepc hx g1; have y11 := keepc hx g2; go_simp; done)
                                  | (have y0 := keepc hx c0; have y1 := keepc hx c1; have y2 := keepc hx c2; have y3 := keepc hx d0; have y4 := keepc hx d1; have y5 := keepc hx d2; have y6 := keepc hx e0; have y7 := keepc hx e1; have y8 := keepc hx e2; have y9 := keepc hx g0; have y10 := keepc hx g1; have y11 := keepc hx g2; go_simp; with_reducible exact rfl)
                                clear hK K))
                          | (first | with_reducible refine sk0 ?_ (fun K hK => ?_) | with_reducible refine sk1 ?_ (fun K hK => ?_) | with_reducible refine sk2 ?_ (fun K hK => ?_) | with_reducible refine sk3 ?_ (fun K hK => ?_) | with_reducible refine sk4 ?_ (fun K hK => ?_)
                             rfl
                             go_simp
                             with_reducible refine hK _ _ ?_
                             clear hK K)
                        first | with_reducible refine sc0 (fun K hK => ?_) | with_reducible refine sc1 (fun K hK => ?_) | with_reducible refine sc2 (fun K hK => ?_) | with_reducible refine sc3 (fun K hK => ?_) | with_reducible refine sc4 (fun K hK => ?_)
                        go_simp
                        refine (HUD.out _ HS0.out).mono ?_
                        clear c0 c1 c2 d0 d1 d2 e0 e1 e2 g0 g1 g2
                        rintro e s1 ⟨rfl, hb9⟩
                        refine ⟨hb9, hK _ _ ?_⟩
                        clear hK K
                        have HS1 := Lib.hid (HS0.out.trans (hb9.mono (HLE.out _ HS0.out)))
                        clear hb9
                        obtain ⟨⟨c0, c1, c2⟩, ⟨d0, d1, d2⟩, ⟨e0, e1, e2⟩, ⟨g0, g1, g2⟩⟩ := HCELL.out s1 HS1.out
                        repeat
                          first
                          | (first | with_reducible refine sp0 (fun K hK => ?_) | with_reducible refine sp1 (fun K hK => ?_) | with_reducible refine sp2 (fun K hK => ?_) | with_reducible refine sp3 (fun K hK => ?_) | with_reducible refine sp4 (fun K hK => ?_)
                             go_simp
                             first
                             | (with_reducible refine hK _ _ ?_; clear hK K)
                             | (with_reducible apply Exists.intro
                                refine ⟨fun x hx => ?_, hK _ _ ?_⟩
                                first
                                  | (with_reducible exact rfl)
                                  | (have y0 := keepc hx c0; have y1 := keepc hx c1; have y2 := keepc hx c2; have y3 := keepc hx d0; have y4 := keepc hx d1; have y5 := keepc hx d2; have y6 := keepc hx e0; have y7 := keepc hx e1; have y8 := keepc hx e2; have y9 := keepc hx g0; have y10 := keepc hx g1; have y11 := keepc hx g2; go_simp; done)
                                  | (have y0 := keepc hx c0; have y1 := keepc hx c1; have y2 := keepc hx c2; have y3 := keepc hx d0; have y4 := keepc hx d1; have y5 := keepc hx d2; have y6 := keepc hx e0; have y7 := keepc hx e1; have y8 := keepc hx e2; have y9 := keepc hx g0; have y10 := keepc hx g1; have y11 := keepc hx g2; go_simp; with_reducible exact rfl)
                                clear hK K))
                          | (first | with_reducible refine sk0 ?_ (fun K hK => ?_) | with_reducible refine sk1 ?_ (fun K hK => ?_) | with_reducible refine sk2 ?_ (fun K hK => ?_) | with_reducible refine sk3 ?_ (fun K hK => ?_) | with_reducible refine sk4 ?_ (fun K hK => ?_)
                             rfl
                             go_simp
                             with_reducible refine hK _ _ ?_
                             clear hK K)
                        first | with_reducible refine sc0 (fun K hK => ?_) | with_reducible refine sc1 (fun K hK => ?_) | with_reducible refine sc2 (fun K hK => ?_) | with_reducible refine sc3 (fun K hK => ?_) | with_reducible refine sc4 (fun K hK => ?_)
                        go_simp
                        refine (HWAK.out _ HS1.out).mono ?_
                        clear c0 c1 c2 d0 d1 d2 e0 e1 e2 g0 g1 g2
                        rintro e s2 ⟨rfl, hb9⟩
                        refine ⟨hb9, hK _ _ ?_⟩
                        clear hK K
                        have HS2 := Lib.hid (HS1.out.trans (hb9.mono (HLE.out _ HS1.out)))
                        clear hb9
                        repeat
                          first
                          | (first | with_reducible refine sp0 (fun K hK => ?_) | with_reducible refine sp1 (fun K hK => ?_) | with_reducible refine sp2 (fun K hK => ?_) | with_reducible refine sp3 (fun K hK => ?_) | with_reducible refine sp4 (fun K hK => ?_)
                             go_simp
                             first
                             | (with_reducible refine hK _ _ ?_; clear hK K)
                             | (with_reducible apply Exists.intro
                                refine ⟨fun x hx => ?_, hK _ _ ?_⟩
                                first
                                  | (with_reducible exact rfl)
                                clear hK K))
                          | (first | with_reducible refine sk0 ?_ (fun K hK => ?_) | with_reducible refine sk1 ?_ (fun K hK => ?_) | with_reducible refine sk2 ?_ (fun K hK => ?_) | with_reducible refine sk3 ?_ (fun K hK => ?_) | with_reducible refine sk4 ?_ (fun K hK => ?_)
                             rfl
                             go_simp
                             with_reducible refine hK _ _ ?_
                             clear hK K)
                        with_reducible refine seq_nil ?_
                        go_wp2_with fail
                        go_ret
                        exact ⟨rfl, HB4'.out.tr HS2.out (Nat.le_refl _)⟩
end Go.Proofs.Ytncdbbjkafgphaa
namespace Go.Proofs.Ytncdbbjkafgphaa.schemeUnder
open Go Go.ChangeShapes Go.WideShapes Go.ChangeAt Go.RowKit

set_option maxRecDepth 100000 in
theorem lifted (os : Os) (started : os.Started) (H : Type) (enc : TypeId × Value → H) :
    ReturnsInHanded {} Try.checked os 6 .any (Rows.schemeUnderSpec.pre6 enc Try.prog Try.f6 Rows.schemeUnderRow.domain false) (Rows.schemeUnderSpec.post enc Try.prog Try.f6 false true false false) := by
  refine returnsInHanded_of_change (C := Try.checked) ownK started (by kernel_rfl) Try.func6
    (ChangeSpec.witness6 (enc := enc) (C := Try.checked) false ⟨#[], #[.agg #[.int .i64 0, .int .i64 0, .slice none 0 0], .agg #[.int .i64 0, .int .i64 0, .slice none 0 0], .slice none 0 0, .slice none 0 0], []⟩ 8 (by kernel_rfl) (by kernel_rfl) (by kernel_rfl) (by kernel_rfl)) ?_
  intro W base args ds gs before hval0 hW hcnd _
  clear hcnd
  have hval : ∀ (j : Nat) t v, Try.f6.params[j]? = some t → args[j]? = some v → Value.okWide Try.prog W .any base t v := hval0
  have hW' := hW
  obtain ⟨p, q, hA0, hV, rfl, hfz, hnd⟩ := hW
  have hA : DataW.TrodAll enc Try.prog W 0 (fun _ => true) true Try.f6.params.toList args.toList ds p := hA0
  rw [Try.params6] at hA hval
  obtain ⟨v0, vs0, d0, ds0, p0, q0, hargs, rfl, rfl, h0, r0⟩ := trodAll_cons hA
  obtain ⟨v1, vs1, d1, ds1, p1, q1, rfl, rfl, rfl, h1, r1⟩ := trodAll_cons r0
  obtain ⟨v2, vs2, d2, ds2, p2, q2, rfl, rfl, rfl, h2, r2⟩ := trodAll_cons r1
  obtain ⟨v3, vs3, d3, ds3, p3, q3, rfl, rfl, rfl, h3, r3⟩ := trodAll_cons r2
  obtain ⟨rfl, rfl, rfl⟩ := trodAll_nil r3
  obtain rfl : args = #[v0, v1, v2, v3] := by cases args; simp_all
  obtain ⟨rfl, rfl⟩ := trodVars_none hV
  have hk0 := h0
  obtain ⟨t0, a0, cap0, rfl, ht0⟩ := open_ty (hval 0 24 v0 rfl rfl) h0
  have hk1 := h1
  obtain ⟨t1, a1, cap1, rfl, ht1⟩ := open_ty (hval 1 24 v1 rfl rfl) h1
  have hk2 := h2
  obtain ⟨l2, a2, m2, cap2, rfl, ht2⟩ := open_types (hval 2 22 v2 rfl rfl) h2
  have hk3 := h3
  obtain ⟨l3, a3, m3, cap3, rfl, ht3⟩ := open_types (hval 3 22 v3 rfl rfl) h3
  clear hA0 hval0
  simp only [List.append_nil] at hW'
  have hlt0 : ∀ x ∈ p0, x.block < W.heap.size := fun x hx => hW'.lt x (by simp [hx])
  have hlt1 : ∀ x ∈ p1, x.block < W.heap.size := fun x hx => hW'.lt x (by simp [hx])
  have hlt2 : ∀ x ∈ p2, x.block < W.heap.size := fun x hx => hW'.lt x (by simp [hx])
  have hlt3 : ∀ x ∈ p3, x.block < W.heap.size := fun x hx => hW'.lt x (by simp [hx])
  refine (lunder11_any t0 a0 cap0 t1 a1 cap1 l2 a2 m2 cap2 l3 a3 m3 cap3 W  ht0 ht1 ht2 ht3).mono fun e W' ⟨he, hb⟩ => ?_
  subst he
  refine ⟨_, rfl, _, _, _, [], p0 ++ (p1 ++ (p2 ++ (p3 ++ []))), [], hW', ?_, ?_, rfl, hb.frame _, fun h => by cases h⟩
  · exact trodAll_cons_mk (shut_bool Try.underlying4 _) trodAll_mk0
  · exact (trodAll_cons_mk (Below.trod laidOut (by kernel_rfl) (of_decide_eq_true (by kernel_rfl)) hk0 hb hlt0) (trodAll_cons_mk (Below.trod laidOut (by kernel_rfl) (of_decide_eq_true (by kernel_rfl)) hk1 hb hlt1) (trodAll_cons_mk (Below.trod laidOut (by kernel_rfl) (of_decide_eq_true (by kernel_rfl)) hk2 hb hlt2) (trodAll_cons_mk (Below.trod laidOut (by kernel_rfl) (of_decide_eq_true (by kernel_rfl)) hk3 hb hlt3) trodAll_mk0))))

theorem said : Rows.SchemeUnderSaid :=
  OpenClaim.holds_of_wide 6 Try.f6 rfl rfl rfl rfl rfl rfl rfl ⟨rfl, rfl, rfl, rfl, rfl⟩ rfl rfl rfl rfl rfl (by kernel_rfl) Try.func6 (by kernel_rfl)
    (of_decide_eq_true (by kernel_rfl)) (by unfold Func.isWrapper; first | (rw [if_pos (by decide +kernel)]; kernel_rfl) | (rw [if_neg (by decide +kernel)]; exact ⟨rfl, rfl⟩))
    (fun os started H enc _ => lifted os started H enc)
#print axioms said
end Go.Proofs.Ytncdbbjkafgphaa.schemeUnder

/- agree.both's closure, walked. -/
import Derived.Test.YteolbbgnkbcfmaaAgN
import Derived.Deep.QuietTactic
import Derived.BigQuiet
namespace Go.Proofs.Yteolbbgnkbcfmaa
open Go Go.RowKit Go.Shelf
open Tp (T)

attribute [local go_sem] Oper.semAt_some

set_option maxRecDepth 100000 in
set_option maxHeartbeats 4000000 in
theorem both_walk (e0 : En) (hw0 : e0.wf) (hsz : enSz [e0] ≤ 10000) (Fr : Nat → Prop) (Ba Bb l : Nat) (J Jx : (Nat → Prop) → List En → World → Prop) (W : World) (hJ : ∀ s, Ab W.heap.size fun M W' => J M s W') (hJx : ∀ s, Ab W.heap.size fun M W' => Jx M s W')
    (hR : ∀ M s W1, J M s W1 → (∀ k, M k → W.heap.size ≤ k ∧ k < W1.heap.size) → W.heap.size ≤ W1.heap.size → enRd s W1)
    (hY : ∀ M s x W1, J M s W1 → (∀ k, M k → W.heap.size ≤ k ∧ k < W1.heap.size) → W.heap.size ≤ W1.heap.size → enAt s x → YieldAt Fence.wide 8 Try.prog l (enEnc x) W1 fun e W' =>
      (e = .returned (.bool true) ∧ (∃ s', enGo s x W' s' ∧ J M s' W') ∧ Turns (fun k => Fr k ∧ ¬ M k) W1 W') ∨ (e = .returned (.bool false) ∧ Jx M s W' ∧ Turns (fun k => Fr k ∧ ¬ M k) W1 W'))
    (h0 : J (fun _ => False) [e0] W) (c0 : W.cell? ⟨Ba, 0, none⟩ = some (.slice e0.px (e0.xs.length + 1) e0.xc)) (c1 : W.cell? ⟨Bb, 0, none⟩ = some (.slice e0.py (e0.ys.length + 1) e0.yc)) :
    CallsIn Fence.wide 9 Try.prog 128 #[.func (.yield l) #[] #[], .pointer (some ⟨Ba, 0, none⟩), .pointer (some ⟨Bb, 0, none⟩)] W fun e W' => (∃ v, e = .returned v) ∧
      ((∃ M s, s = [] ∧ J M s W' ∧ ∀ k, M k → W.heap.size ≤ k ∧ k < W'.heap.size) ∨ (∃ M s, Jx M s W' ∧ ∀ k, M k → W.heap.size ≤ k ∧ k < W'.heap.size)) := by
  have HY := Lib.hid hY; have HJ := Lib.hid hJ; have HX := Lib.hid hJx; have HRD := Lib.hid hR; clear hY hJ hJx hR
  have HW0 := Lib.hid hw0; clear hw0
  refine callsIn_of_wp Try.func128 rfl trivial ?_ rfl
  simp only [Try.ntmps128, List.size_toArray, List.length_cons, List.length_nil, Nat.reduceAdd, Nat.reduceSub, Array.replicate_succ, Array.replicate_zero, List.push_toArray, List.append_toArray, List.nil_append, List.cons_append]
  gi_wp2
  gi_loopg [4] (enSz [e0]) (fun gk v wr => ∃ M s, wr.ownsRow W.heap.size 174 2 v s.length (enCs s.reverse) ∧ (∀ g, v.ownBlock = some g → M g) ∧ (∀ e ∈ s, En.wf e) ∧ enSz s ≤ 10000 ∧ J M s wr ∧ (∀ k, M k → W.heap.size ≤ k ∧ k < wr.heap.size) ∧ W.heap.size ≤ wr.heap.size ∧ gk = enSz s)
  case atStart =>
    refine ⟨fun k => k = W.heap.size, [e0], en_start, fun g hg => by injection hg with hg; exact hg.symm, fun e he => List.mem_singleton.1 he ▸ HW0.out, hsz, HJ.out _ (fun _ => False) _ W _ h0 (fun _ h => h.elim) (Turns.alloc _ _ _) (fun k hk => ⟨.inr (by omega), by simp; omega⟩), fun k hk => ⟨by omega, by simp; omega⟩, by simp, rfl⟩
  case round =>
    obtain ⟨M, s, hown, hmine, hwf, hss, hj, hM, hbs, rfl⟩ := hrel
    have HOWN := Lib.hid hown; have HMINE := Lib.hid hmine; have HWF := Lib.hid hwf; have HJ' := Lib.hid hj; have HM' := Lib.hid hM; have HB := Lib.hid hbs; have HSS := Lib.hid hss
    clear hown hmine hwf hss hj hM hbs c0 c1
    cases s with
    | nil =>
      obtain ⟨av, cv, rfl⟩ := own_shapeT HOWN.out
      gi_wp2
      go_end0
      exact ⟨⟨_, rfl⟩, .inl ⟨M, [], rfl, HJ'.out, HM'.out⟩⟩
    | cons e r =>
      obtain ⟨g, cap, rfl, hg1, hg2, hcp, hcm, r0, r1, hown⟩ := en_top (v := u4) HOWN.out
      have hr : r.length ≤ 10000 := by have := enSz_len (e :: r); have := HSS.out; rw [List.length_cons] at *; omega
      have hew := HWF.out e (by simp)
      obtain ⟨rn, hrn⟩ : ∃ y, r.length = y := ⟨_, rfl⟩
      rw [hrn] at hr r0 r1 hcp hown ⊢
      obtain ⟨xn, hxn⟩ : ∃ y, e.xs.length = y := ⟨_, rfl⟩
      obtain ⟨xb, hxb⟩ : ∃ y, e.xb = y := ⟨_, rfl⟩
      obtain ⟨xo, hxo⟩ : ∃ y, e.xo = y := ⟨_, rfl⟩
      obtain ⟨xc, hxc⟩ : ∃ y, e.xc = y := ⟨_, rfl⟩
      obtain ⟨yb, hyb⟩ : ∃ y, e.yb = y := ⟨_, rfl⟩
      obtain ⟨yo, hyo⟩ : ∃ y, e.yo = y := ⟨_, rfl⟩
      obtain ⟨yc, hyc⟩ : ∃ y, e.yc = y := ⟨_, rfl⟩
      obtain ⟨w1, w2, w3, w4, w5⟩ := id hew
      rw [hxn] at w1 w2; rw [hxc] at w2 w3; rw [hyc] at w4 w5
      rw [w1] at w4
      simp only [En.px, En.py, w1, hxn, hxb, hxo, hxc, hyb, hyo, hyc] at r0 r1
      have HXN := Lib.hid hxn; have HXB := Lib.hid hxb; have HXO := Lib.hid hxo; have HXC := Lib.hid hxc; have HYB := Lib.hid hyb; have HYO := Lib.hid hyo; have HYC := Lib.hid hyc; have HYN := Lib.hid w1; have HRN := Lib.hid hrn
      have HG1 := Lib.hid hg1; have HG2 := Lib.hid hg2; have HCP := Lib.hid hcp; have HCM := Lib.hid hcm; have HPOP := Lib.hid hown; have HEW := Lib.hid hew
      have hpop := en_pop g (rn + 1) cap rn (by omega) hcp
      clear hxn hxb hxo hxc hyb hyo hyc w1 hrn hg1 hg2 hcp hcm hown hew
      unfold maxLen at w3 w5
      gi_upto_if 30 with fail
      obtain ⟨W1, hW1⟩ : ∃ W1, wr.alloc (.cells #[.slice (some ⟨xb, xo, none⟩) (xn + 1) xc, .slice (some ⟨yb, yo, none⟩) (xn + 1) yc] 174) = W1 := ⟨_, rfl⟩
      have HW1 := Lib.hid hW1
      have hb1 : W1.heap[wr.heap.size]? = some (.cells #[.slice (some ⟨xb, xo, none⟩) (xn + 1) xc, .slice (some ⟨yb, yo, none⟩) (xn + 1) yc] 174) := by rw [← hW1]; exact World.alloc_heap_new wr _
      have hs1 : W1.heap.size = wr.heap.size + 1 := by rw [← hW1]; simp
      have hT1 : Turns (fun _ => False) wr W1 := by rw [← hW1]; exact Turns.alloc _ _ _
      rw [hW1]
      clear hW1
      have HB1 := Lib.hid hb1; have HS1 := Lib.hid hs1; have HT1 := Lib.hid hT1
      clear hb1 hs1 hT1 r0 r1 hpop
      gi_cut [4] from 14 (fun v w' => ∃ g1 cap1, v = .slice (some ⟨g1, 0, none⟩) (e.next ++ r).length cap1 ∧ w'.ownsRow W.heap.size 174 2 v (e.next ++ r).length (enCs (e.next ++ r).reverse) ∧ (M g1 ∨ W1.heap.size ≤ g1) ∧ Turns M W1 w')
      case first =>
        have hMg : M g := HMINE.out g rfl
        have HMG := Lib.hid hMg
        have hpop1 : W1.ownsRow W.heap.size 174 2 (.slice (some ⟨g, 0, none⟩) rn cap) rn (enCs r.reverse) := own_same HPOP.out (fun y hy => HT1.out.block y (by injection hy with hy; subst hy; exact HG2.out) (fun h => h))
        have HPOP1 := Lib.hid hpop1
        clear hMg hpop1
        rcases Nat.eq_zero_or_pos xn with h0 | h0
        · have hnx : e.next = [] := by
            have hl := HXN.out
            rw [h0] at hl
            obtain ⟨_, _, xs, _, _, _, _, _, _, _⟩ := e
            have hxs : xs = [] := List.eq_nil_of_length_eq_zero hl
            subst hxs; rfl
          have HNX := Lib.hid hnx
          clear hnx
          subst h0
          gi_wp2
          gi_meet
          case rel =>
            rw [HNX.out, List.nil_append, HRN.out]
            exact ⟨g, cap, rfl, HPOP1.out, .inl HMG.out, Turns.refl _ _⟩
        · obtain ⟨nx, hnx, hnc⟩ : ∃ nx : En, e.next = [nx] ∧ enCells nx = [.slice (some ⟨xb, xo + 3, none⟩) xn (xc - 1), .slice (some ⟨yb, yo + 3, none⟩) xn (yc - 1)] := by
            have q1 := HXN.out; have q2 := HYN.out; have q3 := HXB.out; have q4 := HXO.out; have q5 := HXC.out; have q6 := HYB.out; have q7 := HYO.out; have q8 := HYC.out
            obtain ⟨_, _, xs, ys, _, _, _, _, _, _⟩ := e
            dsimp only at q1 q2 q3 q4 q5 q6 q7 q8
            subst q3 q4 q5 q6 q7 q8
            cases xs with
            | nil => simp at q1; omega
            | cons a xs' =>
              cases ys with
              | nil => simp at q2; omega
              | cons b ys' =>
                refine ⟨_, rfl, ?_⟩
                simp only [List.length_cons] at q1 q2
                simp only [enCells, En.px, En.py, q1, q2]
          have HNX := Lib.hid hnx; have HNC := Lib.hid hnc
          clear hnx hnc
          have htl1 := list_tail xb xo (xn + 1) xc (by omega) w2
          have htl2 := list_tail yb yo (xn + 1) yc (by omega) w4
          rw [Nat.add_sub_cancel] at htl1 htl2
          have d0 : W1.cell? ⟨wr.heap.size, 0, none⟩ = some (.slice (some ⟨xb, xo, none⟩) (xn + 1) xc) := cell_box HB1.out rfl rfl
          have d1 : W1.cell? ⟨wr.heap.size, 1, none⟩ = some (.slice (some ⟨yb, yo, none⟩) (xn + 1) yc) := cell_box HB1.out rfl rfl
          obtain ⟨i0, hi, hz0, hz1, hz2⟩ := info_parts info_en
          obtain ⟨b1, b2, b3, b4⟩ := b48 hr
          have HL1 := Lib.hid b1; have HL3 := Lib.hid b3
          clear b1 b2 b3 b4
          have HB3 := Lib.hid (show W.heap.size ≤ W1.heap.size from by have := HB.out; have := HS1.out; omega)
          gi_upto_region 6 with fail
          refine wpIn_wide.2 ?_
          go_region_law (first | (refine step_append_lies _ ?_ (.tmp 31) (.tmp 39) 175 ?_ W.heap.size 174 i0 (.agg #[.slice none 0 0, .slice none 0 0]) 2 48 Try.underlying175 hi hz0 hz1 hz2 ?_ ?_ (.slice (some ⟨g, 0, none⟩) rn cap) rn (enCs r.reverse) ?_ ?_ ⟨W1.heap.size, 0, none⟩ 1 1 [.slice (some ⟨xb, xo + 3, none⟩) xn (xc - 1), .slice (some ⟨yb, yo + 3, none⟩) xn (yc - 1)] ?_ ?_ ?_ ?_ ?_ ?_ ?_ ?_ (W1.heap.size + 1) ?_ ?_; (· rfl); (· rfl); (· rfl); (· decide); (· rfl); (· exact HPOP1.out.alloc _); (· rfl); (· rfl); (· exact World.news_of_block (World.alloc_heap_new W1 _)); (· exact en_two _ _ _ _ _ _); (· decide); (· exact HL3.out); (· exact HL1.out); (· exact Nat.le_trans HB3.out (by simp)); (· simp); intro g1 cap1 w1 hown1 hgr1 hly1 _))
          all_goals
            gi_wp2
            gi_meet
            case rel =>
              rw [HNX.out, List.singleton_append, List.length_cons, HRN.out]
              rw [← HNC.out] at hown1
              have hown2 := en_push (R := r) (n := nx) (g := g1) (cap := cap1) (base := W.heap.size) (w := w1) (by rw [HRN.out]; exact hown1)
              rw [List.length_cons, HRN.out] at hown2
              refine ⟨g1, cap1, rfl, hown2, (lies_at' hly1).imp (fun h => by rw [h]; exact HMG.out) id, push_turns (Turns.refl _ _) (undrew hgr1) (fun k hk _ => by cases hk; exact HMG.out)⟩
      case rest =>
        obtain ⟨g1, cap1, rfl, hown1, hg1', hT1'⟩ := hcut
        obtain ⟨sn, hsn⟩ : ∃ y, (e.next ++ r).length = y := ⟨_, rfl⟩
        rw [hsn] at hown1 ⊢
        have hbx : wc.heap[wr.heap.size]? = some (.cells #[.slice (some ⟨xb, xo, none⟩) (xn + 1) xc, .slice (some ⟨yb, yo, none⟩) (xn + 1) yc] 174) := (hT1'.block _ (by rw [HS1.out]; omega) (fun h => by have := (HM'.out _ h).2; omega)).trans HB1.out
        have d0 : wc.cell? ⟨wr.heap.size, 0, none⟩ = some (.slice (some ⟨xb, xo, none⟩) (xn + 1) xc) := cell_box hbx rfl rfl
        have d1 : wc.cell? ⟨wr.heap.size, 1, none⟩ = some (.slice (some ⟨yb, yo, none⟩) (xn + 1) yc) := cell_box hbx rfl rfl
        have HOWN1 := Lib.hid hown1; have HG1' := Lib.hid hg1'; have HT1' := Lib.hid hT1'; have HSN := Lib.hid hsn
        clear hown1 hg1' hT1' hsn hbx
        gi_upto_region 7 with fail
        refine wpIn_wide.2 ?_
        go_quiet (fail)
        obtain ⟨W3, hW3⟩ : ∃ W3, wc.drewN nq = W3 := ⟨_, rfl⟩
        have hh3 : W3.heap = wc.heap := by rw [← hW3]; rfl
        have hT3 : Turns M wr W3 := ((HT1.out.mono fun _ _ h => h.elim).trans HT1'.out).trans (by rw [← hW3]; exact ⟨rfl, rfl, rfl, Nat.le_refl _, fun _ _ _ => rfl⟩)
        have hs3 : wr.heap.size + 1 ≤ W3.heap.size := by rw [hh3, ← HS1.out]; exact HT1'.out.size
        have hown3 : W3.ownsRow W.heap.size 174 2 (.slice (some ⟨g1, 0, none⟩) sn cap1) sn (enCs (e.next ++ r).reverse) := own_same HOWN1.out (fun _ _ => by rw [hh3])
        have hg3 : (M g1 ∨ wr.heap.size ≤ g1) ∧ g1 < W3.heap.size := ⟨HG1'.out.imp id (fun h => by rw [HS1.out] at h; omega), (hown3.lt _ rfl).2⟩
        rw [hW3]
        clear hW3 d0 d1
        obtain ⟨M2, hM2⟩ : ∃ M2 : Nat → Prop, M2 = fun k => (M k ∨ wr.heap.size ≤ k) ∧ k < W3.heap.size := ⟨_, rfl⟩
        have hMb : ∀ k, M2 k → W.heap.size ≤ k ∧ k < W3.heap.size := fun k hk => by
          rw [hM2] at hk
          refine ⟨hk.1.elim (fun h => (HM'.out k h).1) (fun h => Nat.le_trans HB.out h), hk.2⟩
        have hj3 : J M2 (e :: r) W3 := HJ.out _ M M2 wr W3 HJ'.out HM'.out hT3 (fun k hk => by rw [hM2] at hk; exact hk)
        have hb3 : W.heap.size ≤ W3.heap.size := Nat.le_trans HB.out (Nat.le_of_succ_le hs3)
        obtain ⟨k0, k1⟩ := HRD.out M2 (e :: r) W3 hj3 hMb hb3 e r rfl
        obtain ⟨fn, tmps, assign, body, hy, hRd⟩ := HY.out M2 (e :: r) e W3 hj3 hMb hb3 ⟨r, rfl⟩
        have hm3 : M2 g1 := by rw [hM2]; exact hg3
        rw [HXB.out, HXO.out] at k0; rw [HYB.out, HYO.out] at k1
        obtain ⟨kx, hkx⟩ : ∃ y, e.x.kind = y := ⟨_, rfl⟩
        obtain ⟨ky, hky⟩ : ∃ y, e.y.kind = y := ⟨_, rfl⟩
        rw [hkx] at k0; rw [hky] at k1
        simp only [enEnc, En.px, En.py, HXB.out, HXO.out, HYB.out, HYO.out] at hy
        obtain ⟨bE, hbE⟩ : ∃ b, Tp.ends e.x e.y = b := ⟨_, rfl⟩
        have hbE' : bE = (decide (kx = 5) || decide (ky = 5)) := by rw [← hbE, Tp.ends, hkx, hky]
        have HBE := Lib.hid hbE; have HBE' := Lib.hid hbE'; have HJ3 := Lib.hid hj3; have HMB := Lib.hid hMb; have HS3 := Lib.hid hs3; have HOWN3 := Lib.hid hown3; have HG3 := Lib.hid hg3; have HB3 := Lib.hid hb3; have HM3 := Lib.hid hm3
        clear hbE hbE' hkx hky hj3 hMb hs3 hown3 hg3 hb3 hM2 hT3 hh3 hm3
        gi_upto_region 8 with fail
        gi_cut [9] from 14 (fun v w' => v = .bool bE ∧ w' = W3)
        case first =>
          by_cases hk : kx = 5
          · subst hk
            gi_wp2
            gi_meet
            case rel => exact ⟨by rw [HBE'.out]; rfl, rfl⟩
          · have g5 : (kx == 5) = false := by simp [hk]
            by_cases hk2 : ky = 5
            · subst hk2
              gi_wp2
              gi_meet
              case rel => exact ⟨by rw [HBE'.out]; simp, rfl⟩
            · have g6 : (ky == 5) = false := by simp [hk2]
              gi_wp2
              gi_meet
              case rel => exact ⟨by rw [HBE'.out]; simp [hk, hk2], rfl⟩
        case rest =>
          obtain ⟨rfl, rfl⟩ := hcut
          gi_wp2
          refine hRd.mono ?_
          clear hy k0 k1
          rintro e' W4 (⟨rfl, ⟨s', hgo, hj4⟩, hT4⟩ | ⟨rfl, hJx4, hT4⟩)
          · have hs4 := hT4.size
            have hblk : ∀ k, M2 k → W4.heap[k]? = wc.heap[k]? := fun k hk => hT4.block k (HMB.out k hk).2 (fun h => h.2 hk)
            have hown4 : W4.ownsRow W.heap.size 174 2 (.slice (some ⟨g1, 0, none⟩) sn cap1) sn (enCs (e.next ++ r).reverse) := own_same HOWN3.out (fun y hy => by injection hy with hy; subst hy; exact hblk _ HM3.out)
            have hb4 : W.heap.size ≤ W4.heap.size := Nat.le_trans HB3.out hs4
            have hmb4 : ∀ k, M2 k → W.heap.size ≤ k ∧ k < W4.heap.size := fun k hk => ⟨(HMB.out k hk).1, Nat.lt_of_lt_of_le (HMB.out k hk).2 hs4⟩
            obtain ⟨hless, hwf4⟩ := go_less hgo HWF.out
            have hss4 : enSz s' ≤ 10000 := Nat.le_trans (Nat.le_of_lt hless) HSS.out
            have fin : ∀ (v5 : Value) (W5 : World), W5.ownsRow W.heap.size 174 2 v5 s'.length (enCs s'.reverse) → (∀ g, v5.ownBlock = some g → (g = g1 ∨ W4.heap.size ≤ g) ∧ g < W5.heap.size) → Turns M2 W4 W5 →
                ∃ M s, W5.ownsRow W.heap.size 174 2 v5 s.length (enCs s.reverse) ∧ (∀ g, v5.ownBlock = some g → M g) ∧ (∀ e ∈ s, En.wf e) ∧ enSz s ≤ 10000 ∧ J M s W5 ∧ (∀ k, M k → W.heap.size ≤ k ∧ k < W5.heap.size) ∧ W.heap.size ≤ W5.heap.size ∧ enSz s' = enSz s := fun v5 W5 q1 q2 q3 =>
              ⟨fun k => (M2 k ∨ W4.heap.size ≤ k) ∧ k < W5.heap.size, s', q1, fun g hg => ⟨(q2 g hg).1.imp (fun h => by rw [h]; exact HM3.out) id, (q2 g hg).2⟩, hwf4, hss4, HJ.out s' M2 _ W4 W5 hj4 hmb4 q3 (fun k hk => hk),
                fun k hk => ⟨hk.1.elim (fun h => (hmb4 k h).1) (fun h => Nat.le_trans hb4 h), hk.2⟩, Nat.le_trans hb4 q3.size, rfl⟩
            have HFIN := Lib.hid fin; have HLESS := Lib.hid hless; have HOWN4 := Lib.hid hown4; have HB4 := Lib.hid hb4
            have hl4 : enSz s' ≤ 10000 ∧ s'.length ≤ enSz s' := ⟨hss4, enSz_len s'⟩
            have HL4 := Lib.hid hl4
            clear fin hless hown4 hb4 hmb4 hwf4 hss4 hs4 hblk hl4 hj4 hT4
            obtain ⟨r', hrr, hgo⟩ := hgo
            injection hrr with _ hrr
            subst hrr
            rcases hgo with ⟨hE, hs'⟩ | ⟨hE, hk, ⟨a, c, k2⟩, hs'⟩ | ⟨hE, n, hk1, hk2, hnw, k2, k3, hs'⟩
            · have hbE : bE = true := HBE.out.symm.trans hE
              have HS' := Lib.hid hs'
              clear hE hs'
              subst hbE
              gi_wp2
              gi_roundg (enSz s')
              case measure => exact HLESS.out
              case rel => exact HFIN.out _ _ (by rw [HS'.out, HSN.out]; exact HOWN4.out) (fun g hg => by injection hg with hg; subst hg; exact ⟨.inl rfl, (HOWN4.out.lt _ rfl).2⟩) (Turns.refl _ _)
            · have hbE : bE = false := HBE.out.symm.trans hE
              have HS' := Lib.hid hs'
              rw [HXB.out, HXO.out] at k2
              clear hE hs' hk
              subst hbE
              gi_wp2
              gi_roundg (enSz s')
              case measure => exact HLESS.out
              case rel => exact HFIN.out _ _ (by rw [HS'.out, HSN.out]; exact HOWN4.out) (fun g hg => by injection hg with hg; subst hg; exact ⟨.inl rfl, (HOWN4.out.lt _ rfl).2⟩) (Turns.refl _ _)
            · have hbE : bE = false := HBE.out.symm.trans hE
              have HS' := Lib.hid hs'
              obtain ⟨pb, po, hpx⟩ : ∃ pb po, n.px = some ⟨pb, po, none⟩ := ⟨_, _, rfl⟩
              obtain ⟨qb, qo, hqy⟩ : ∃ qb qo, n.py = some ⟨qb, qo, none⟩ := ⟨_, _, rfl⟩
              obtain ⟨pn, hpn⟩ : ∃ y, n.xs.length = y := ⟨_, rfl⟩
              obtain ⟨pc, hpc⟩ : ∃ y, n.xc = y := ⟨_, rfl⟩
              obtain ⟨qc, hqc⟩ : ∃ y, n.yc = y := ⟨_, rfl⟩
              have hnc : enCells n = [.slice (some ⟨pb, po, none⟩) (pn + 1) pc, .slice (some ⟨qb, qo, none⟩) (pn + 1) qc] := by
                simp only [enCells, hpx, hqy, hpn, hnw.1, hpc, hqc]
              rw [HXB.out, HXO.out, hpx, hpn, hpc] at k2
              rw [HYB.out, HYO.out, hqy, hnw.1, hpn, hqc] at k3
              have hsn1 : sn + 1 ≤ 10000 := by
                have h1 := HL4.out
                have h2 := congrArg List.length hs'
                rw [List.length_cons, HSN.out] at h2
                omega
              have HNC := Lib.hid hnc; have HSN1 := Lib.hid hsn1
              obtain ⟨b1, b2, b3, b4⟩ := b48 (Nat.le_of_succ_le hsn1)
              have HL1 := Lib.hid b1; have HL3 := Lib.hid b3
              clear b1 b2 b3 b4 hpx hqy hpn hpc hqc hnc hnw hk1 hk2 hE hs' hsn1
              subst hbE
              obtain ⟨i0, hi, hz0, hz1, hz2⟩ := info_parts info_en
              gi_upto_region 11 with fail
              refine wpIn_wide.2 ?_
              go_region_law (first | (refine step_append_lies _ ?_ (.tmp 74) (.tmp 84) 175 ?_ W.heap.size 174 i0 (.agg #[.slice none 0 0, .slice none 0 0]) 2 48 Try.underlying175 hi hz0 hz1 hz2 ?_ ?_ (.slice (some ⟨g1, 0, none⟩) sn cap1) sn (enCs (e.next ++ r).reverse) ?_ ?_ ⟨W4.heap.size, 0, none⟩ 1 1 [.slice (some ⟨pb, po, none⟩) (pn + 1) pc, .slice (some ⟨qb, qo, none⟩) (pn + 1) qc] ?_ ?_ ?_ ?_ ?_ ?_ ?_ ?_ (W4.heap.size + 1) ?_ ?_; (· rfl); (· rfl); (· rfl); (· decide); (· rfl); (· exact HOWN4.out.alloc _); (· rfl); (· rfl); (· exact World.news_of_block (World.alloc_heap_new W4 _)); (· exact en_two _ _ _ _ _ _); (· decide); (· exact HL3.out); (· exact HL1.out); (· exact Nat.le_trans HB4.out (by simp)); (· simp); intro g2 cap2 w2 hown2 hgr2 hly2 _))
              all_goals
                rw [← HNC.out] at hown2
                have hown5 := en_push (R := e.next ++ r) (n := n) (g := g2) (cap := cap2) (base := W.heap.size) (w := w2) (by rw [HSN.out]; exact hown2)
                rw [List.length_cons, HSN.out] at hown5
                have F := HFIN.out (.slice (some ⟨g2, 0, none⟩) (sn + 1) cap2) w2 (by rw [HS'.out, List.length_cons, HSN.out]; exact hown5) (fun g hg => by injection hg with hg; subst hg; exact ⟨lies_at' hly2, (hown5.lt _ rfl).2⟩) (push_turns (Turns.refl _ _) (undrew hgr2) (fun k hk _ => by cases hk; exact HM3.out))
                have FF := Lib.hid F
                clear F hown5 hown2 hgr2 hly2 hi hz0 hz1 hz2 k2 k3
                gi_wp2
                gi_roundg (enSz s')
                case measure => exact HLESS.out
                case rel => exact FF.out
          · gi_wp2
            refine bodyPost_ret (results_none rfl _ _ _) rfl ?_
            exact ⟨⟨_, rfl⟩, .inr ⟨_, _, hJx4, fun k hk => ⟨(HMB.out k hk).1, Nat.lt_of_lt_of_le (HMB.out k hk).2 hT4.size⟩⟩⟩
end Go.Proofs.Yteolbbgnkbcfmaa

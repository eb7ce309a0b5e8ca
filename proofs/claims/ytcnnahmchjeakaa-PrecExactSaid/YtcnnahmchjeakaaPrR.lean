/- The page's Below, Of and Ground of stage 9, walked. -/
import Derived.Test.YtcnnahmchjeakaaPrT
namespace Go.Proofs.Ytcnnahmchjeakaa
open Go Go.RowKit
open Tp (T)

theorem belows_append : ∀ (a b c d : List T), a.length = c.length → Tp.belows (a ++ b) (c ++ d) = (Tp.belows a c && Tp.belows b d)
  | [], b, [], d, _ => by simp [Tp.belows]
  | x :: r, b, y :: s, d, h => by
    simp only [List.cons_append, Tp.belows, belows_append r b s d (by simpa using h), Bool.and_assoc]
theorem belows_take (l m : List T) (k : Nat) (h : k < l.length) (h' : k < m.length) : Tp.belows (l.take (k + 1)) (m.take (k + 1)) = (Tp.belows (l.take k) (m.take k) && Tp.below l[k] m[k]) := by
  rw [List.take_succ_eq_append_getElem h, List.take_succ_eq_append_getElem h', belows_append _ _ _ _ (by simp; omega)]; simp [Tp.belows]
theorem belows_get (l m : List T) (k : Nat) (h : k < l.length) (h' : k < m.length) (hf : Tp.below l[k] m[k] = false) : Tp.belows l m = false := by
  have e := belows_append (l.take (k + 1)) (l.drop (k + 1)) (m.take (k + 1)) (m.drop (k + 1)) (by simp; omega)
  rw [List.take_append_drop, List.take_append_drop, belows_take l m k h h', hf] at e
  simpa using e
/-- What the page asks of two right types, the second no ?. -/
theorem page_below {t u : T} (ht : Tp.right t = true) (hu : Tp.right u = true) (h5' : ¬ u.kind = 5) : (leafB t u = true → Tp.below t u = true) ∧ (leafB t u = false → likeB t u = false → Tp.below t u = false) ∧ (likeB t u = true → t.kids.length = u.kids.length ∧ Tp.below t u = Tp.belows t.kids u.kids) := by
  cases t with
  | mk k n l =>
    cases u with
    | mk k' n' l' =>
      simp only [Tp.T.kind] at h5'
      have e : Tp.below (.mk k n l) (.mk k' n' l') = (decide (k = k') && decide (n = n') && Tp.belows l l') := by simp only [Tp.below]; rw [decide_eq_false h5', Bool.false_or]
      simp only [leafB, likeB, Tp.T.kids, Tp.T.kind, Tp.T.num]
      rw [e]
      refine ⟨fun h => ?_, fun h h2 => ?_, fun h => ?_⟩
      · rw [Bool.and_eq_true, Bool.and_eq_true] at h
        obtain ⟨⟨q1, q2⟩, q3⟩ := h
        have p2 := of_decide_eq_true q2
        have p3 := of_decide_eq_true q3
        have hl : l = [] := List.eq_nil_of_length_eq_zero (of_decide_eq_true q1)
        clear q1 q2 q3
        rw [hl, p2, p3]
        simp [Tp.belows]
      · by_cases hk : k = k'
        · by_cases hl : 0 < l.length
          · simp [hk, hl] at h2
          · have hl0 : l.length = 0 := by omega
            have hn : ¬ n = n' := fun hn => by simp [hl0, hk, hn] at h
            simp [hn]
        · simp [hk]
      · rw [Bool.and_eq_true] at h
        obtain ⟨q1, q2⟩ := h
        have p1 := of_decide_eq_true q1
        have p2 := of_decide_eq_true q2
        clear q1 q2
        subst p2
        obtain ⟨r1, _, _, _, r5⟩ := Tp.right_node ht
        obtain ⟨s1, _, _, _, s5⟩ := Tp.right_node hu
        have h6 : k ≠ 6 := fun h => by subst h; simp [Tp.arity] at r1; omega
        refine ⟨by omega, ?_⟩
        rw [r5 h6, s5 h6]; simp

set_option maxRecDepth 100000 in
set_option maxHeartbeats 4000000 in
theorem rbelow_any : ∀ (n : Nat) (t u : T) (a : Option Addr) (cap : Nat) (a' : Option Addr) (cap' : Nat) (w : World), Tp.size t ≤ n → Tp.right t = true → Tp.right u = true → TyAt (LT w.heap.size) w t a cap → TyAt (LT w.heap.size) w u a' cap' →
    Calls Try.prog 15 #[tv t a cap, tv u a' cap'] w fun e w' => e = .returned (.bool (Tp.below t u)) ∧ Below w.heap.size w w' := by
  intro n
  induction n with
  | zero => intro t u a cap a' cap' w h; have := Tp.size_pos t; omega
  | succ n ih =>
    intro t u a cap a' cap' w hn hrt hru hty hty'
    have hm10 : (t.kids.length : Int) ≤ 9223372036854775807 := by have h1 := hty.2.2.1; have h2 := hty.2.2.2.1; unfold maxLen at h2; omega
    have hpg := page_below hrt hru
    have HN := Lib.hid hn; have HTY := Lib.hid hty; have HTY' := Lib.hid hty'; have IH := Lib.hid ih; have HRT := Lib.hid hrt; have HRU := Lib.hid hru
    have hdyn' : u.kind = 5 → Tp.below t u = true := fun h' => by cases t; cases u; simp only [Tp.T.kind] at h'; simp [Tp.below, h']
    obtain ⟨kk, nn, m, hv⟩ := TV.mk t
    obtain ⟨kk', nn', m', hv'⟩ := TV.mk u
    have hlf := fun x => rleaf_any (a := a) (c := cap) (a' := a') (c' := cap') x hv hv'
    have hlk := fun x => rlike_any (a := a) (c := cap) (a' := a') (c' := cap') x hv hv'
    rw [tv_of hv, tv_of hv']
    rw [hv'.1] at hpg hdyn'
    rw [hv.2.2] at hm10
    obtain ⟨res, hres⟩ : ∃ res, Tp.below t u = res := ⟨_, rfl⟩
    rw [hres] at hpg hdyn' ⊢
    obtain ⟨W2, hW2⟩ : ∃ W2, (w.alloc (.cells #[.int .i64 kk, .int .i64 nn, .slice a m cap] 24)).alloc (.cells #[.int .i64 kk', .int .i64 nn', .slice a' m' cap'] 24) = W2 := ⟨_, rfl⟩
    obtain ⟨hb2, hs2, hcell⟩ := box_pair W2 hW2
    obtain ⟨⟨c0, c1, c2⟩, ⟨d0, d1, d2⟩⟩ := hcell W2 (Below.refl _ _)
    have HM := Lib.hid hv.2.2; have HM' := Lib.hid hv'.2.2; have HB2 := Lib.hid hb2; have HS2 := Lib.hid hs2; have HCELL := Lib.hid hcell; have HW2 := Lib.hid hW2; have HPG := Lib.hid hpg; have HD' := Lib.hid hdyn'; have HLF := Lib.hid hlf; have HLK := Lib.hid hlk
    clear hn hty hty' ih hrt hru hpg hdyn' hlf hlk hv hv' hres hb2 hs2 hcell hW2
    go_enter Try.func15, Try.ntmps15
    go_upto_region 1 with fail
    rw [HW2.out]
    by_cases h6 : kk' = 5
    · have g6 : (kk' == 5) = true := by simp [h6]
      have HRES := Lib.hid (HD'.out h6); clear h6
      go_wp2_with fail
      go_ret
      exact ⟨ret_boolT HRES.out.symm, HB2.out⟩
    · have g6 : (kk' == 5) = false := by simp [h6]
      have HP := Lib.hid (HPG.out h6); clear h6
      go_wp2_with fail
      refine (HLF.out _).mono ?_
      clear c0 c1 c2 d0 d1 d2
      rintro e w3 ⟨rfl, hb⟩
      have HB3 := Lib.hid (show Below (w.heap.size + 1 + 1) W2 w3 from hb.mono (Nat.le_of_eq HS2.out.symm)); clear hb
      obtain ⟨⟨c0, c1, c2⟩, ⟨d0, d1, d2⟩⟩ := HCELL.out _ HB3.out
      obtain ⟨lf_, hlf_⟩ : ∃ b, leafB t u = b := ⟨_, rfl⟩
      rw [hlf_] at HP ⊢
      cases lf_ with
      | true =>
        have HRES := Lib.hid (HP.out.1 rfl)
        clear hlf_
        go_wp2_with fail
        go_ret
        exact ⟨ret_boolT HRES.out.symm, HB2.out.trans (HB3.out.mono (by omega))⟩
      | false =>
        clear hlf_
        go_wp2_with fail
        refine (HLK.out _).mono ?_
        clear c0 c1 c2 d0 d1 d2
        rintro e w4 ⟨rfl, hb⟩
        have HB4 := Lib.hid (show Below (w.heap.size + 1 + 1) W2 w4 from HB3.out.trans (hb.mono (by have := HB3.out.size; have := HS2.out; omega))); clear hb
        obtain ⟨⟨c0, c1, c2⟩, ⟨d0, d1, d2⟩⟩ := HCELL.out _ HB4.out
        obtain ⟨lk_, hlk_⟩ : ∃ b, likeB t u = b := ⟨_, rfl⟩
        rw [hlk_] at HP ⊢
        cases lk_ with
        | false =>
          have HRES := Lib.hid ((HP.out).2.1 (by simp) (by simp))
          clear hlk_
          go_wp2_with fail
          go_ret
          exact ⟨ret_boolT HRES.out.symm, HB2.out.trans (HB4.out.mono (by omega))⟩
        | true =>
          obtain ⟨hlen, hr⟩ := HP.out.2.2 rfl
          have hmm : m' = m := by rw [← HM.out, ← HM'.out, hlen]
          subst hmm
          have HR := Lib.hid hr
          clear hlk_ hlen hr
          clear c0 c1 c2 d0 d1 d2
          go_wp2_with fail
          go_loopg [5] m' (fun gk i wr => ∃ k : Nat, k ≤ m' ∧ i = .int .i64 k ∧ Tp.belows (t.kids.take k) (u.kids.take k) = true ∧ Below (w.heap.size + 1 + 1) W2 wr ∧ gk = m' - k)
          case atStart => exact ⟨0, Nat.zero_le _, rfl, rfl, HB4.out, rfl⟩
          case round =>
            obtain ⟨k, hk, rfl, hw, hb, rfl⟩ := hrel
            obtain ⟨⟨c0, c1, c2⟩, ⟨d0, d1, d2⟩⟩ := HCELL.out _ hb
            have hbw : Below w.heap.size w wr := HB2.out.trans (hb.mono (by omega))
            have HBB := Lib.hid hb; have HBW := Lib.hid hbw; have HW := Lib.hid hw; clear hb hbw hw
            by_cases hlt : k < m'
            · have hkl : k < t.kids.length := by rw [HM.out]; exact hlt
              have hkl' : k < u.kids.length := by rw [HM'.out]; exact hlt
              obtain ⟨b, o, xa, xcap, rfl, hbn, hx, x0, x1, x2⟩ := kid_at HTY.out HBW.out (Nat.le_refl _) hkl
              obtain ⟨b', o', ya, ycap, rfl, hbn', hy, y0, y1, y2⟩ := kid_at HTY'.out HBW.out (Nat.le_refl _) hkl'
              have hst := belows_take t.kids u.kids k hkl hkl'
              have hge := belows_get t.kids u.kids k hkl hkl'
              have hsk := size_kid t.kids k hkl
              have hss := size_kids t
              have hcall1 := IH.out t.kids[k] u.kids[k] xa xcap ya ycap wr.drew (by have := HN.out; omega) (rights_at (kids_right HRT.out) k hkl) (rights_at (kids_right HRU.out) k hkl') (hx.below ((Below.refl wr.heap.size wr).drew) (fun _ h => h) (fun _ h => h)) (hy.below ((Below.refl wr.heap.size wr).drew) (fun _ h => h) (fun _ h => h))
              unfold tv at hcall1
              obtain ⟨x, hx'⟩ : ∃ x, t.kids[k] = x := ⟨_, rfl⟩
              obtain ⟨y, hy'⟩ : ∃ x, u.kids[k] = x := ⟨_, rfl⟩
              rw [hx'] at x0 x1 x2 hcall1 hst hge
              rw [hy'] at y0 y1 y2 hcall1 hst hge
              obtain ⟨s2, hs2⟩ : ∃ s1, Tp.below x y = s1 := ⟨_, rfl⟩
              rw [hs2] at hcall1 hst hge
              have HST := Lib.hid hst; have HC := Lib.hid hcall1; have HGE := Lib.hid hge
              clear hst hcall1 hsk hss hx hx' hy hy' hs2 hge
              cases s2 with
              | true =>
                go_wp2_with fail
                go_still_tail 10, (by kernel_rfl)
                go_wp2_with (go_at_call 15; refine HC.out.mono ?_; rintro e w' ⟨rfl, hb'⟩)
                have hb2 := below_undrew hb'
                go_roundg (m' - (k + 1))
                case measure => omega
                case rel => exact ⟨k + 1, by omega, by go_num, by rw [HST.out, HW.out]; rfl, HBB.out.trans (hb2.mono (by have := HBB.out.size; have := HS2.out; omega)), rfl⟩
              | false =>
                go_wp2_with fail
                go_still_tail 10, (by kernel_rfl)
                go_wp2_with (go_at_call 15; refine HC.out.mono ?_; rintro e w' ⟨rfl, hb'⟩)
                have hb2 := below_undrew hb'
                go_ret
                exact ⟨ret_boolT (by rw [HR.out]; exact (HGE.out trivial).symm), HBW.out.trans (hb2.mono HBW.out.size)⟩
            · obtain rfl : k = m' := by omega
              go_wp2_with fail
              go_ret
              exact ⟨ret_boolT (by rw [HR.out, ← HW.out, List.take_of_length_le (by rw [HM.out]; exact Nat.le_refl _), List.take_of_length_le (by rw [HM'.out]; exact Nat.le_refl _)]), HBW.out⟩
end Go.Proofs.Ytcnnahmchjeakaa

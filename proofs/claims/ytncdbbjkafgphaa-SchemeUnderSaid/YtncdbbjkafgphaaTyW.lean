/- typ.Same, walked. -/
import Derived.Test.YtncdbbjkafgphaaTyZ
import Derived.Deep.DeepCutAuto
import Derived.Deep.CutRange
namespace Go.Proofs.Ytncdbbjkafgphaa
open Go Go.RowKit
open Tp (T)

set_option maxRecDepth 100000 in
set_option maxHeartbeats 4000000 in
theorem same_any (t u : T) (a : Option Addr) (cap : Nat) (a' : Option Addr) (cap' : Nat) (w : World) (hsz : Tp.size t ≤ 1000000) (hty : TyAt (LT w.heap.size) w t a cap) (hty' : TyAt (LT w.heap.size) w u a' cap') :
    Calls Try.prog 59 #[tv t a cap, tv u a' cap'] w fun e w' => e = .returned (.bool (Tp.same t u)) ∧ Below w.heap.size w w' := by
  have HTY := Lib.hid hty; have HTY' := Lib.hid hty'; clear hty hty'
  obtain ⟨k0, hk0⟩ : ∃ k0, t.kind = k0 := ⟨_, rfl⟩
  obtain ⟨n0, hn0⟩ : ∃ n0, t.num = n0 := ⟨_, rfl⟩
  obtain ⟨m0, hm0⟩ : ∃ m0, t.kids.length = m0 := ⟨_, rfl⟩
  obtain ⟨k1, hk1⟩ : ∃ k0, u.kind = k0 := ⟨_, rfl⟩
  obtain ⟨n1, hn1⟩ : ∃ n0, u.num = n0 := ⟨_, rfl⟩
  obtain ⟨m1, hm1⟩ : ∃ m0, u.kids.length = m0 := ⟨_, rfl⟩
  unfold tv
  rw [hk0, hn0, hm0, hk1, hn1, hm1]
  obtain ⟨res, hres⟩ : ∃ res, Tp.same t u = res := ⟨_, rfl⟩
  rw [hres]
  have HRES := Lib.hid hres
  have HK := Lib.hid hk0; have HN := Lib.hid hn0; have HM := Lib.hid hm0; have HK1 := Lib.hid hk1; have HN1 := Lib.hid hn1; have HM1 := Lib.hid hm1
  clear hk0 hn0 hm0 hk1 hn1 hm1 hres
  go_enter Try.func59, Try.ntmps59
  go_wp2_with fail
  have hst := cmp_start HTY.out HTY'.out hsz
  rw [HK.out, HN.out, HM.out, HK1.out, HN1.out, HM1.out] at hst
  have HST := Lib.hid hst; clear hst
  have HB0 := Lib.hid (show Below w.heap.size w (((((w.alloc (.cells #[.int .i64 k0, .int .i64 n0, .slice a m0 cap] 24)).alloc (.cells #[.int .i64 k1, .int .i64 n1, .slice a' m1 cap'] 24)).alloc (.cells #[.int .i64 k0, .int .i64 n0, .slice a m0 cap] 24)).alloc
        (.cells #[.int .i64 k1, .int .i64 n1, .slice a' m1 cap'] 24)).alloc (.cells #[.slice (some ⟨w.heap.size + 1 + 1, 0, none⟩) 1 1, .slice (some ⟨w.heap.size + 1 + 1 + 1, 0, none⟩) 1 1] 98)) from (((((Below.refl _ _).alloc (Nat.le_refl _) _).alloc (by simp) _).alloc (by simp <;> omega) _).alloc (by simp <;> omega) _).alloc (by simp <;> omega) _)
  go_loopg [5] (Tp.size t) (fun gk v wr => ∃ R, Cmp (w.heap.size + 1 + 1 + 1 + 1) t u R v wr ∧ Below w.heap.size w wr ∧ w.heap.size + 1 + 1 + 1 + 1 ≤ wr.heap.size ∧ gk = msz R)
  case atStart => exact ⟨_, HST.out, HB0.out, by simp, by simp [msz, Tp.sizes]⟩
  case round =>
    obtain ⟨R, hC, hb, hn, rfl⟩ := hrel
    have HC := Lib.hid hC; have HB := Lib.hid hb; have HN4 := Lib.hid hn
    clear hC hb hn HST HB0
    cases R with
    | nil =>
      obtain ⟨av, cv, rfl⟩ := own_shapeT HC.out.own
      have hr : res = true := by rw [← HRES.out, HC.out.same]; rfl
      have HR := Lib.hid hr; clear hr
      go_wp2_with fail
      go_ret
      exact ⟨ret_boolT HR.out.symm, HB.out⟩
    | cons e R =>
      obtain ⟨g, cap3, rfl, hg1, hg2, hcp, hcm, h0, h1, hown⟩ := own_top2 (v := u5) HC.out.own
      have hgood := HC.out.each e (by simp)
      obtain ⟨ne, hlen, hsa, hsb⟩ := id hgood
      obtain ⟨l1, ea, ca, l2, eb, cb⟩ := e
      dsimp only at h0 h1 ne hlen hsa hsb hgood
      cases l1 with
      | nil => exact absurd rfl ne
      | cons x rs =>
        cases l2 with
        | nil => cases hlen
        | cons y ss =>
          obtain ⟨b, o, rfl, hGb, hnode, htail⟩ := hsa.2.2.head
          obtain ⟨xa, xcap, hxty, x0, x1, x2⟩ := hnode.ty
          obtain ⟨b', o', rfl, hGb', hnode', htail'⟩ := hsb.2.2.head
          obtain ⟨ya, ycap, hyty, y0, y1, y2⟩ := hnode'.ty
          obtain ⟨xk, hxk⟩ : ∃ z, x.kind = z := ⟨_, rfl⟩
          obtain ⟨xn, hxn⟩ : ∃ z, x.num = z := ⟨_, rfl⟩
          obtain ⟨xm, hxm⟩ : ∃ z, x.kids.length = z := ⟨_, rfl⟩
          obtain ⟨yk, hyk⟩ : ∃ z, y.kind = z := ⟨_, rfl⟩
          obtain ⟨yn, hyn⟩ : ∃ z, y.num = z := ⟨_, rfl⟩
          obtain ⟨ym, hym⟩ : ∃ z, y.kids.length = z := ⟨_, rfl⟩
          obtain ⟨rm, hrm⟩ : ∃ z, rs.length = z := ⟨_, rfl⟩
          obtain ⟨r, hr⟩ : ∃ z, R.length = z := ⟨_, rfl⟩
          have hss : ss.length = rm := by rw [← hrm]; simpa using hlen.symm
          rw [hr] at h0 h1 hcp hown ⊢
          rw [hxk] at x0; rw [hxn] at x1; rw [hxm] at x2
          rw [hyk] at y0; rw [hyn] at y1; rw [hym] at y2
          rw [List.length_cons, hrm] at h0; rw [List.length_cons, hss] at h1
          have hR : r ≤ 1000000 := by have h1 := len_msz HC.out.each; have h2 := HC.out.small; rw [List.length_cons, hr] at h1; omega
          have hbB : b < wr.heap.size := cell_lt x0
          have hbB' : b' < wr.heap.size := cell_lt y0
          have HXK := Lib.hid hxk; have HXN := Lib.hid hxn; have HXM := Lib.hid hxm; have HYK := Lib.hid hyk; have HYN := Lib.hid hyn; have HYM := Lib.hid hym; have HRM := Lib.hid hrm; have HSS := Lib.hid hss; have HR := Lib.hid hr
          have HXTY := Lib.hid hxty; have HYTY := Lib.hid hyty; have HOWN := Lib.hid hown; have HSA := Lib.hid hsa; have HSB := Lib.hid hsb; have HG1 := Lib.hid hg1; have HG2 := Lib.hid hg2; have HCP := Lib.hid hcp; have HCM := Lib.hid hcm; have HRR := Lib.hid hR
          clear hxk hxn hxm hyk hyn hym hrm hss hr ne hlen hxty hyty htail htail' hown hsa hsb hGb hGb' hnode hnode' hgood
          have h32 := fun w1 => alike_any x y xa xcap ya ycap w1 (Nat.le_trans HXTY.out.2.2.1 HXTY.out.2.2.2.1) (Nat.le_trans HYTY.out.2.2.1 HYTY.out.2.2.2.1)
          unfold tv at h32
          rw [HXK.out, HXN.out, HXM.out, HYK.out, HYN.out, HYM.out] at h32
          obtain ⟨al, hal⟩ : ∃ al, (decide (xk = yk) && decide (xn = yn) && decide (xm = ym)) = al := ⟨_, rfl⟩
          rw [hal] at h32
          have hal' : (decide (x.kind = y.kind) && decide (x.num = y.num) && decide (x.kids.length = y.kids.length)) = al := by rw [HXK.out, HXN.out, HXM.out, HYK.out, HYN.out, HYM.out]; exact hal
          have HAL := Lib.hid hal; have HAL' := Lib.hid hal'; have H32 := Lib.hid h32; clear hal hal' h32
          go_upto_region 5 with fail
          go_cut [8, 9] (fun v8 v9 wx => ∃ B8 B9, v8 = .pointer (some ⟨B8, 0, none⟩) ∧ v9 = .pointer (some ⟨B9, 0, none⟩) ∧ wr.heap.size ≤ B8 ∧ wr.heap.size ≤ B9 ∧ wx.heap[B8]? = some (.cells #[.int .i64 xk, .int .i64 xn, .slice xa xm xcap] 24) ∧ wx.heap[B9]? = some (.cells #[.int .i64 yk, .int .i64 yn, .slice ya ym ycap] 24) ∧
            wx.heap[wr.heap.size]? = some (.cells #[.slice (some ⟨b, o, none⟩) (rm + 1) ca, .slice (some ⟨b', o', none⟩) (rm + 1) cb] 98) ∧ Below wr.heap.size wr wx)
          case first =>
            go_region_held3 (fun w' => w'.cell? ⟨wr.heap.size, 0, none⟩ = some (.slice (some ⟨b, o, none⟩) (rm + 1) ca) ∧ w'.cell? ⟨wr.heap.size, 1, none⟩ = some (.slice (some ⟨b', o', none⟩) (rm + 1) cb) ∧
                w'.cell? ⟨b, o, none⟩ = some (.int .i64 xk) ∧ w'.cell? ⟨b, o + 1, none⟩ = some (.int .i64 xn) ∧ w'.cell? ⟨b, o + 2, none⟩ = some (.slice xa xm xcap) ∧
                w'.cell? ⟨b', o', none⟩ = some (.int .i64 yk) ∧ w'.cell? ⟨b', o' + 1, none⟩ = some (.int .i64 yn) ∧ w'.cell? ⟨b', o' + 2, none⟩ = some (.slice ya ym ycap))
              (first | (go_keep; done) | (refine ⟨?_, ?_, ?_, ?_, ?_, ?_, ?_, ?_⟩ <;> first | exact old3 (by assumption) _ _ _ | go_keep))
              (fail)
            all_goals
              go_wp2_with fail
              go_meet
              obtain ⟨q1, q2, q3, q4⟩ := three (w := wr) #[.slice (some ⟨b, o, none⟩) (rm + 1) ca, .slice (some ⟨b', o', none⟩) (rm + 1) cb] #[.int .i64 xk, .int .i64 xn, .slice xa xm xcap] #[.int .i64 yk, .int .i64 yn, .slice ya ym ycap] 98 24 24
              obtain ⟨p1, p2, p3, p4⟩ := three (w := wr) #[.slice (some ⟨b, o, none⟩) (rm + 1) ca, .slice (some ⟨b', o', none⟩) (rm + 1) cb] #[.int .i64 yk, .int .i64 yn, .slice ya ym ycap] #[.int .i64 xk, .int .i64 xn, .slice xa xm xcap] 98 24 24
              first
              | exact ⟨_, _, rfl, rfl, by omega, by omega, q2, q3, q1, q4⟩
              | exact ⟨_, _, rfl, rfl, by omega, by omega, p3, p2, p1, p4⟩
          case rest =>
            obtain ⟨B8, B9, rfl, rfl, hB8, hB9, b8, b9, b7, hbx⟩ := hcut
            have c70 : wc.cell? ⟨wr.heap.size, 0, none⟩ = some (.slice (some ⟨b, o, none⟩) (rm + 1) ca) := cell_box b7 rfl rfl
            have c8 : wc.cell? ⟨B8, 0, none⟩ = some (.int .i64 xk) := cell_box b8 rfl rfl
            have c81 : wc.cell? ⟨B8, 1, none⟩ = some (.int .i64 xn) := cell_box b8 rfl rfl
            have c82 : wc.cell? ⟨B8, 2, none⟩ = some (.slice xa xm xcap) := cell_box b8 rfl rfl
            have c9 : wc.cell? ⟨B9, 0, none⟩ = some (.int .i64 yk) := cell_box b9 rfl rfl
            have c91 : wc.cell? ⟨B9, 1, none⟩ = some (.int .i64 yn) := cell_box b9 rfl rfl
            have c92 : wc.cell? ⟨B9, 2, none⟩ = some (.slice ya ym ycap) := cell_box b9 rfl rfl
            have HB7 := Lib.hid b7; have HB8 := Lib.hid b8; have HB9 := Lib.hid b9; have HBX := Lib.hid hbx; have HL8 := Lib.hid hB8; have HL9 := Lib.hid hB9
            clear b7 b8 b9 hbx hB8 hB9 x0 x1 x2 y0 y1 y2 h0 h1
            cases al with
            | false =>
              go_wp2_with (go_at_call 74; refine (H32.out _).mono ?_; rintro e w6 ⟨rfl, hb6⟩)
              go_ret
              exact ⟨ret_boolT (by rw [← HRES.out]; exact (cmp_no HC.out HAL'.out).symm), HB.out.trans ((HBX.out.trans (hb6.mono HBX.out.size)).mono HB.out.size)⟩
            | true =>
              have hxy : ym = xm := by have := HAL.out; simp only [Bool.and_eq_true, decide_eq_true_eq] at this; exact this.2.symm
              subst hxy
              have HW6 := Lib.hid (show ∀ w6, Below wc.heap.size wc w6 → w6.heap[wr.heap.size]? = some (.cells #[.slice (some ⟨b, o, none⟩) (rm + 1) ca, .slice (some ⟨b', o', none⟩) (rm + 1) cb] 98) ∧ w6.heap[B8]? = some (.cells #[.int .i64 xk, .int .i64 xn, .slice xa ym xcap] 24) ∧
                  w6.heap[B9]? = some (.cells #[.int .i64 yk, .int .i64 yn, .slice ya ym ycap] 24) ∧ Below wr.heap.size wr w6 ∧ w6.ownsRow (w.heap.size + 1 + 1 + 1 + 1) 98 2 (.slice (some ⟨g, 0, none⟩) r cap3) r (st2Cells R.reverse) from fun w6 h6 =>
                ⟨below_get h6 HB7.out (Array.getElem?_eq_some_iff.1 HB7.out).1, below_get h6 HB8.out (Array.getElem?_eq_some_iff.1 HB8.out).1, below_get h6 HB9.out (Array.getElem?_eq_some_iff.1 HB9.out).1, HBX.out.trans (h6.mono HBX.out.size),
                  own_same HOWN.out (fun y hy => by injection hy with hy; subst hy; exact (HBX.out.trans (h6.mono HBX.out.size)).block _ HG2.out)⟩)
              obtain ⟨k48, k48', kml, kml'⟩ := b48 HRR.out
              have B1 := Lib.hid k48; have B2 := Lib.hid k48'; have B3 := Lib.hid kml; have B4 := Lib.hid kml'
              clear k48 k48' kml kml'
              obtain ⟨i0, hi, hz0, hz1, hz2⟩ := info_parts info_sm
              have HF := Lib.hid (fun E v5 W5 => cmp_end (E := E) (v' := v5) (w' := W5) HC.out HAL'.out HB.out (by omega) HN4.out)
              have GT := Lib.hid (show rs ≠ [] → En2.good (w.heap.size + 1 + 1 + 1 + 1) wr ⟨rs, some ⟨b, o + 3, none⟩, ca - 1, ss, some ⟨b', o' + 3, none⟩, cb - 1⟩ from fun h => ⟨h, by rw [HRM.out, HSS.out], tail_slat HSA.out, tail_slat HSB.out⟩)
              have GK := Lib.hid (show x.kids ≠ [] → En2.good (w.heap.size + 1 + 1 + 1 + 1) wr ⟨x.kids, xa, xcap, y.kids, ya, ycap⟩ from fun h => ⟨h, by rw [HXM.out, HYM.out], HXTY.out.2.2, HYTY.out.2.2⟩)
              have hpop := sm_pop g (r + 1) cap3 r (by omega) HCP.out
              have HGN := Lib.hid (show ∀ k, (Value.slice (some ⟨g, 0, none⟩) r cap3).ownBlock = some k → (w.heap.size + 1 + 1 + 1 + 1) ≤ k from fun k hk => by injection hk with hk; subst hk; exact HG1.out)
              rcases Nat.eq_zero_or_pos rm with hz | hz
              · have hrs : rs = [] := List.eq_nil_of_length_eq_zero (by rw [HRM.out]; exact hz)
                have hss : ss = [] := List.eq_nil_of_length_eq_zero (by rw [HSS.out]; exact hz)
                have HRS := Lib.hid hrs; have HSS' := Lib.hid hss; clear hrs hss
                subst hz
                rcases Nat.eq_zero_or_pos ym with hm | hm
                · have hks : x.kids = [] := List.eq_nil_of_length_eq_zero (by rw [HXM.out]; exact hm)
                  have hks' : y.kids = [] := List.eq_nil_of_length_eq_zero (by rw [HYM.out]; exact hm)
                  have HKS := Lib.hid hks; have HKS' := Lib.hid hks'; clear hks hks'
                  subst hm
                  go_wp2_with (go_at_call 74; refine (H32.out _).mono ?_; rintro e w6 ⟨rfl, hb6⟩; obtain ⟨l7, l8, l9, hwr, how⟩ := HW6.out w6 hb6; have hz6 : wr.heap.size < w6.heap.size := (Array.getElem?_eq_some_iff.1 l7).1; have d70 : w6.cell? ⟨wr.heap.size, 0, none⟩ = some (.slice (some ⟨b, o, none⟩) (0 + 1) ca) := cell_box l7 rfl rfl; have d71 : w6.cell? ⟨wr.heap.size, 1, none⟩ = some (.slice (some ⟨b', o', none⟩) (0 + 1) cb) := cell_box l7 rfl rfl; have d8 : w6.cell? ⟨B8, 2, none⟩ = some (.slice xa 0 xcap) := cell_box l8 rfl rfl; have d9 : w6.cell? ⟨B9, 2, none⟩ = some (.slice ya 0 ycap) := cell_box l9 rfl rfl; have L7 := Lib.hid l7; have L8 := Lib.hid l8; have L9 := Lib.hid l9; have HWR := Lib.hid hwr; have HOW := Lib.hid how; clear l7 l8 l9 hwr how hb6 c70 c8 c81 c82 c9 c91 c92)
                  have F := HF.out [] (.slice (some ⟨g, 0, none⟩) r cap3) w6 (HWR.out.mono HN4.out) (fun _ h => by cases h) (by rw [HRS.out, HSS'.out, HKS.out, HKS'.out]; simp [Tp.sames]) (by rw [HRS.out, HKS.out]; rfl) (by rw [List.nil_append, HR.out]; exact HOW.out)
                  go_roundg (msz ([] ++ R))
                  case measure => exact F.1
                  case rel => exact F.2
                · have hks : x.kids ≠ [] := List.length_pos_iff.1 (by rw [HXM.out]; exact hm)
                  have HKN := Lib.hid hks; clear hks
                  go_wp2_with (first | (go_at_call 74; refine (H32.out _).mono ?_; rintro e w6 ⟨rfl, hb6⟩; obtain ⟨l7, l8, l9, hwr, how⟩ := HW6.out w6 hb6; have hz6 : wr.heap.size < w6.heap.size := (Array.getElem?_eq_some_iff.1 l7).1; have d70 : w6.cell? ⟨wr.heap.size, 0, none⟩ = some (.slice (some ⟨b, o, none⟩) (0 + 1) ca) := cell_box l7 rfl rfl; have d71 : w6.cell? ⟨wr.heap.size, 1, none⟩ = some (.slice (some ⟨b', o', none⟩) (0 + 1) cb) := cell_box l7 rfl rfl; have d8 : w6.cell? ⟨B8, 2, none⟩ = some (.slice xa ym xcap) := cell_box l8 rfl rfl; have d9 : w6.cell? ⟨B9, 2, none⟩ = some (.slice ya ym ycap) := cell_box l9 rfl rfl; have L7 := Lib.hid l7; have L8 := Lib.hid l8; have L9 := Lib.hid l9; have HWR := Lib.hid hwr; have HOW := Lib.hid how; clear l7 l8 l9 hwr how hb6 c70 c8 c81 c82 c9 c91 c92) | (at_builtin; refine wpList_append_lies _ rfl (.tmp 59) (.tmp 65) 99 rfl (w.heap.size + 1 + 1 + 1 + 1) 98 i0 (.agg #[.slice none 0 0, .slice none 0 0]) 2 48 Try.underlying99 hi hz0 hz1 hz2 rfl (by decide) (.slice (some ⟨g, 0, none⟩) r cap3) r (st2Cells R.reverse) rfl (HOW.out.alloc _) ⟨w6.heap.size, 0, none⟩ 1 1 [.slice xa ym xcap, .slice ya ym ycap] rfl rfl (World.news_of_block (World.alloc_heap_new w6 _)) (two_slices _ _ _ _ _ _) (by decide) B3.out B1.out (Nat.le_trans HN4.out (Nat.le_trans (Nat.le_of_lt hz6) (by simp))) _ rfl ?_; intro g2 cap2 w8 own2 gr2 ly2 _))
                  have hbe := below_push (HWR.out.mono HN4.out) gr2 HGN.out (Nat.le_trans HN4.out (Nat.le_of_lt hz6))
                  have F := HF.out [⟨x.kids, xa, xcap, y.kids, ya, ycap⟩] (.slice (some ⟨g2, 0, none⟩) (r + 1) cap2) w8 hbe (List.forall_mem_cons.2 ⟨GK.out HKN.out, fun _ h => by cases h⟩) (by rw [HRS.out, HSS'.out]; simp [Tp.sames]) (by rw [HRS.out]; simp [msz, Tp.sizes])
                    (by rw [List.singleton_append, List.length_cons, List.reverse_cons, st2Cells_snoc, HR.out]; simp only [en2Cells, HXM.out, HYM.out]; exact own2)
                  go_roundg (msz ([⟨x.kids, xa, xcap, y.kids, ya, ycap⟩] ++ R))
                  case measure => exact F.1
                  case rel => exact F.2
              · have hrs : rs ≠ [] := List.length_pos_iff.1 (by rw [HRM.out]; exact hz)
                have HRN := Lib.hid hrs; clear hrs
                have hta := list_tail b o (rm + 1) ca (by omega) (by have := HSA.out.1; rw [List.length_cons, HRM.out] at this; exact this)
                have htb := list_tail b' o' (rm + 1) cb (by omega) (by have := HSB.out.1; rw [List.length_cons, HSS.out] at this; exact this)
                rw [Nat.add_sub_cancel] at hta htb
                rcases Nat.eq_zero_or_pos ym with hm | hm
                · have hks : x.kids = [] := List.eq_nil_of_length_eq_zero (by rw [HXM.out]; exact hm)
                  have hks' : y.kids = [] := List.eq_nil_of_length_eq_zero (by rw [HYM.out]; exact hm)
                  have HKS := Lib.hid hks; have HKS' := Lib.hid hks'; clear hks hks'
                  subst hm
                  go_upto_region 10 with (go_at_call 74; refine (H32.out _).mono ?_; rintro e w6 ⟨rfl, hb6⟩; obtain ⟨l7, l8, l9, hwr, how⟩ := HW6.out w6 hb6; have hz6 : wr.heap.size < w6.heap.size := (Array.getElem?_eq_some_iff.1 l7).1; have d70 : w6.cell? ⟨wr.heap.size, 0, none⟩ = some (.slice (some ⟨b, o, none⟩) (rm + 1) ca) := cell_box l7 rfl rfl; have d71 : w6.cell? ⟨wr.heap.size, 1, none⟩ = some (.slice (some ⟨b', o', none⟩) (rm + 1) cb) := cell_box l7 rfl rfl; have d8 : w6.cell? ⟨B8, 2, none⟩ = some (.slice xa 0 xcap) := cell_box l8 rfl rfl; have d9 : w6.cell? ⟨B9, 2, none⟩ = some (.slice ya 0 ycap) := cell_box l9 rfl rfl; have L7 := Lib.hid l7; have L8 := Lib.hid l8; have L9 := Lib.hid l9; have HWR := Lib.hid hwr; have HOW := Lib.hid how; clear l7 l8 l9 hwr how hb6 c70 c8 c81 c82 c9 c91 c92)
                  go_region_law (first | (refine step_append_lies _ ?_ (.tmp 45) (.tmp 53) 99 ?_ (w.heap.size + 1 + 1 + 1 + 1) 98 i0 (.agg #[.slice none 0 0, .slice none 0 0]) 2 48 Try.underlying99 hi hz0 hz1 hz2 ?_ ?_ (.slice (some ⟨g, 0, none⟩) r cap3) r (st2Cells R.reverse) ?_ ?_ ⟨w6.heap.size, 0, none⟩ 1 1 [.slice (some ⟨b, o + 3, none⟩) rm (ca - 1), .slice (some ⟨b', o' + 3, none⟩) rm (cb - 1)] ?_ ?_ ?_ ?_ ?_ ?_ ?_ ?_ (w6.heap.size + 1) ?_ ?_; (· rfl); (· rfl); (· rfl); (· decide); (· rfl); (· exact HOW.out.alloc _); (· rfl); (· rfl); (· exact World.news_of_block (World.alloc_heap_new w6 _)); (· exact two_slices _ _ _ _ _ _); (· decide); (· exact B3.out); (· exact B1.out); (· exact Nat.le_trans HN4.out (Nat.le_trans (Nat.le_of_lt hz6) (by simp))); (· simp); intro g1 cap1 w7 own1 gr1 ly1 _))
                  all_goals
                    have gr1' := undrew gr1
                    have hbe := below_push (HWR.out.mono HN4.out) gr1' HGN.out (Nat.le_trans HN4.out (Nat.le_of_lt hz6))
                    have F := HF.out [⟨rs, some ⟨b, o + 3, none⟩, ca - 1, ss, some ⟨b', o' + 3, none⟩, cb - 1⟩] (.slice (some ⟨g1, 0, none⟩) (r + 1) cap1) w7 hbe (List.forall_mem_cons.2 ⟨GT.out HRN.out, fun _ h => by cases h⟩) (by rw [HKS.out, HKS'.out]; simp [Tp.sames]) (by rw [HKS.out]; simp [msz, Tp.sizes])
                      (by rw [List.singleton_append, List.length_cons, List.reverse_cons, st2Cells_snoc, HR.out]; simp only [en2Cells, HRM.out, HSS.out]; exact own1)
                    have FF := Lib.hid F
                    have e8 : w7.cell? ⟨B8, 2, none⟩ = some (.slice xa 0 xcap) := cell_box L8.out (far_block gr1' (Array.getElem?_eq_some_iff.1 L8.out).1 (Nat.ne_of_gt (Nat.lt_of_lt_of_le HG2.out HL8.out))) rfl
                    clear F gr1 gr1' ly1 own1 hbe d70 d71 d8 d9 hta htb hpop hi hz0 hz1 hz2
                    go_wp2_with fail
                    go_roundg (msz ([⟨rs, some ⟨b, o + 3, none⟩, ca - 1, ss, some ⟨b', o' + 3, none⟩, cb - 1⟩] ++ R))
                    case measure => exact FF.out.1
                    case rel => exact FF.out.2
                · have hks : x.kids ≠ [] := List.length_pos_iff.1 (by rw [HXM.out]; exact hm)
                  have HKN := Lib.hid hks; clear hks
                  go_upto_region 10 with (go_at_call 74; refine (H32.out _).mono ?_; rintro e w6 ⟨rfl, hb6⟩; obtain ⟨l7, l8, l9, hwr, how⟩ := HW6.out w6 hb6; have hz6 : wr.heap.size < w6.heap.size := (Array.getElem?_eq_some_iff.1 l7).1; have d70 : w6.cell? ⟨wr.heap.size, 0, none⟩ = some (.slice (some ⟨b, o, none⟩) (rm + 1) ca) := cell_box l7 rfl rfl; have d71 : w6.cell? ⟨wr.heap.size, 1, none⟩ = some (.slice (some ⟨b', o', none⟩) (rm + 1) cb) := cell_box l7 rfl rfl; have d8 : w6.cell? ⟨B8, 2, none⟩ = some (.slice xa ym xcap) := cell_box l8 rfl rfl; have d9 : w6.cell? ⟨B9, 2, none⟩ = some (.slice ya ym ycap) := cell_box l9 rfl rfl; have L7 := Lib.hid l7; have L8 := Lib.hid l8; have L9 := Lib.hid l9; have HWR := Lib.hid hwr; have HOW := Lib.hid how; clear l7 l8 l9 hwr how hb6 c70 c8 c81 c82 c9 c91 c92)
                  go_region_law (first | (refine step_append_lies _ ?_ (.tmp 45) (.tmp 53) 99 ?_ (w.heap.size + 1 + 1 + 1 + 1) 98 i0 (.agg #[.slice none 0 0, .slice none 0 0]) 2 48 Try.underlying99 hi hz0 hz1 hz2 ?_ ?_ (.slice (some ⟨g, 0, none⟩) r cap3) r (st2Cells R.reverse) ?_ ?_ ⟨w6.heap.size, 0, none⟩ 1 1 [.slice (some ⟨b, o + 3, none⟩) rm (ca - 1), .slice (some ⟨b', o' + 3, none⟩) rm (cb - 1)] ?_ ?_ ?_ ?_ ?_ ?_ ?_ ?_ (w6.heap.size + 1) ?_ ?_; (· rfl); (· rfl); (· rfl); (· decide); (· rfl); (· exact HOW.out.alloc _); (· rfl); (· rfl); (· exact World.news_of_block (World.alloc_heap_new w6 _)); (· exact two_slices _ _ _ _ _ _); (· decide); (· exact B3.out); (· exact B1.out); (· exact Nat.le_trans HN4.out (Nat.le_trans (Nat.le_of_lt hz6) (by simp))); (· simp); intro g1 cap1 w7 own1 gr1 ly1 _))
                  all_goals
                    have gr1' := undrew gr1
                    have hbe := below_push (HWR.out.mono HN4.out) gr1' HGN.out (Nat.le_trans HN4.out (Nat.le_of_lt hz6))
                    have e8 : w7.cell? ⟨B8, 2, none⟩ = some (.slice xa ym xcap) := cell_box L8.out (far_block gr1' (Array.getElem?_eq_some_iff.1 L8.out).1 (Nat.ne_of_gt (Nat.lt_of_lt_of_le HG2.out HL8.out))) rfl
                    have e9 : w7.cell? ⟨B9, 2, none⟩ = some (.slice ya ym ycap) := cell_box L9.out (far_block gr1' (Array.getElem?_eq_some_iff.1 L9.out).1 (Nat.ne_of_gt (Nat.lt_of_lt_of_le HG2.out HL9.out))) rfl
                    have HBE := Lib.hid hbe; have HOW1 := Lib.hid own1
                    clear gr1 gr1' ly1 own1 hbe d70 d71 d8 d9 hta htb hpop
                    go_wp2_with (at_builtin; refine wpList_append_lies _ rfl (.tmp 59) (.tmp 65) 99 rfl (w.heap.size + 1 + 1 + 1 + 1) 98 i0 (.agg #[.slice none 0 0, .slice none 0 0]) 2 48 Try.underlying99 hi hz0 hz1 hz2 rfl (by decide) (.slice (some ⟨g1, 0, none⟩) (r + 1) cap1) (r + 1) (st2Cells R.reverse ++ [.slice (some ⟨b, o + 3, none⟩) rm (ca - 1), .slice (some ⟨b', o' + 3, none⟩) rm (cb - 1)]) rfl (HOW1.out.alloc _) ⟨w7.heap.size, 0, none⟩ 1 1 [.slice xa ym xcap, .slice ya ym ycap] rfl rfl (World.news_of_block (World.alloc_heap_new w7 _)) (two_slices _ _ _ _ _ _) (by decide) B4.out B2.out (Nat.le_trans HN4.out (Nat.le_trans HBE.out.size (by simp))) _ rfl ?_; intro g2 cap2 w8 own2 gr2 ly2 _)
                    have hbe2 := below_push HBE.out gr2 (fun k hk => (HOW1.out.lt k hk).1) (Nat.le_trans HN4.out HBE.out.size)
                    have F := HF.out [⟨x.kids, xa, xcap, y.kids, ya, ycap⟩, ⟨rs, some ⟨b, o + 3, none⟩, ca - 1, ss, some ⟨b', o' + 3, none⟩, cb - 1⟩] (.slice (some ⟨g2, 0, none⟩) (r + 1 + 1) cap2) w8 hbe2 (List.forall_mem_cons.2 ⟨GK.out HKN.out, List.forall_mem_cons.2 ⟨GT.out HRN.out, fun _ h => by cases h⟩⟩) (by simp [Bool.and_comm]) (by simp [msz]; omega)
                      (by simp only [List.cons_append, List.nil_append, List.length_cons, List.reverse_cons, st2Cells_snoc, HR.out, en2Cells, HRM.out, HSS.out, HXM.out, HYM.out]; exact own2)
                    go_roundg (msz ([⟨x.kids, xa, xcap, y.kids, ya, ycap⟩, ⟨rs, some ⟨b, o + 3, none⟩, ca - 1, ss, some ⟨b', o' + 3, none⟩, cb - 1⟩] ++ R))
                    case measure => exact F.1
                    case rel => exact F.2
end Go.Proofs.Ytncdbbjkafgphaa

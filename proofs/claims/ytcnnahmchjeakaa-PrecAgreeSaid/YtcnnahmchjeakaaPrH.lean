/- The law's fill, walked: what it hands back lies in what it was handed and in new blocks. -/
import Derived.Test.YtcnnahmchjeakaaPrF
import Derived.Test.YtcnnahmchjeakaaRwM
import Derived.Test.YtcnnahmchjeakaaSeqR
namespace Go.Proofs.Ytcnnahmchjeakaa
open Go Go.RowKit
open Tp (T)

set_option maxRecDepth 100000 in
set_option maxHeartbeats 4000000 in
theorem fill_any (A : Nat) : ∀ (s : Nat) (t u : T) (kk nn : Int) (m : Nat) (a : Option Addr) (cap : Nat) (kk' nn' : Int) (m' : Nat) (a' : Option Addr) (cap' : Nat) (w : World), TV t kk nn m → TV u kk' nn' m' → Tp.size t ≤ s → Tp.size t ≤ 10000 → Tp.right t = true → Tp.right u = true → A ≤ w.heap.size → TyAt (LT A) w t a cap → TyAt (LT A) w u a' cap' →
    Calls Try.prog 22 #[.agg #[.int .i64 kk, .int .i64 nn, .slice a m cap], .agg #[.int .i64 kk', .int .i64 nn', .slice a' m' cap']] w (MixPost A (Tp.fill t u) w) := by
  intro s
  induction s with
  | zero => intro t u kk nn m a cap kk' nn' m' a' cap' w hv hv' h; have := Tp.size_pos t; omega
  | succ s ih =>
    intro t u kk nn m a cap kk' nn' m' a' cap' w hv hv' hn hs hrt hru hA hty hty'
    have hm10 : m ≤ 10000 := by rw [← hv.2.2]; have := Tp.length_le_sizes t.kids; have := size_kids t; omega
    have hmm : kk = kk' → m = m' := fun h => by
      rw [← hv.2.2, ← hv'.2.2]
      have h1 := hv.1; have h2 := hv'.1
      cases t; cases u
      simp only [Tp.T.kind] at h1 h2
      subst h1 h2
      subst h
      exact Tp.kids_len hrt hru
    have hd := fun h => Tp.fill_dyn (t := t) (u := u) (by rw [hv.1]; exact h)
    have he := fun h h' => Tp.fill_eq (t := t) (u := u) (by rw [hv.1]; exact h) (by rw [hv.1, hv'.1]; exact h')
    have hne := fun h h' => Tp.fill_ne (t := t) (u := u) (by rw [hv.1]; exact h) (by rw [hv.1, hv'.1]; exact h')
    have hmix : ∀ (x : T) (xa : Option Addr) (xc : Nat), TyAt (LT A) w x xa xc → ∀ w', Below w.heap.size w w' → TyAt (Mix A w w') w' x xa xc := fun x xa xc hx w' hb => hx.below (hb.mono hA) (fun _ h => h) (fun b h => ⟨.inl h, Nat.lt_of_lt_of_le h (Nat.le_trans hA hb.size)⟩)
    have hik : I64 kk ∧ I64 nn := by rw [← hv.1, ← hv.2.1]; exact ⟨hty.1, hty.2.1⟩
    obtain ⟨W3, hW3⟩ : ∃ W, ((w.alloc (.cells #[.int .i64 kk, .int .i64 nn, .slice a m cap] 24)).alloc (.cells #[.int .i64 kk', .int .i64 nn', .slice a' m' cap'] 24)).alloc (.cells #[.int .i64 0, .int .i64 0, .slice none 0 0] 24) = W := ⟨_, rfl⟩
    have hl3 : [Obj.cells #[.int .i64 kk, .int .i64 nn, .slice a m cap] 24, .cells #[.int .i64 kk', .int .i64 nn', .slice a' m' cap'] 24, .cells #[.int .i64 0, .int .i64 0, .slice none 0 0] 24].foldl World.alloc w = W3 := hW3
    have hs3 : W3.heap.size = w.heap.size + 3 := by rw [← hl3]; exact al_size _ _
    have hb3 : Below w.heap.size w W3 := by rw [← hl3]; exact al_below _ _ (Nat.le_refl _)
    have hx3 : W3.heap[w.heap.size]? = some (.cells #[.int .i64 kk, .int .i64 nn, .slice a m cap] 24) := by rw [← hl3]; exact al_get _ w 0 _ rfl
    have hu3 : W3.heap[w.heap.size + 1]? = some (.cells #[.int .i64 kk', .int .i64 nn', .slice a' m' cap'] 24) := by rw [← hl3]; exact al_get _ w 1 _ rfl
    have hz3 : W3.heap[w.heap.size + 2]? = some (.cells #[.int .i64 0, .int .i64 0, .slice none 0 0] 24) := by rw [← hl3]; exact al_get _ w 2 _ rfl
    have HN := Lib.hid hn; have HS := Lib.hid hs; have HTY := Lib.hid hty; have HTY' := Lib.hid hty'; have IH := Lib.hid ih; have HV := Lib.hid hv; have HV' := Lib.hid hv'; have HRT := Lib.hid hrt; have HRU := Lib.hid hru; have HA := Lib.hid hA; have HD := Lib.hid hd; have HE := Lib.hid he; have HNE := Lib.hid hne; have HMIX := Lib.hid hmix; have HIK := Lib.hid hik; have HM10 := Lib.hid hm10; have HMM := Lib.hid hmm
    have HW3 := Lib.hid hW3; have HS3 := Lib.hid hs3; have HB3 := Lib.hid hb3; have HX3 := Lib.hid hx3; have HU3 := Lib.hid hu3; have HZ3 := Lib.hid hz3
    clear hn hs hty hty' ih hv hv' hrt hru hA hd he hne hmix hik hm10 hmm hW3 hl3 hs3 hb3 hx3 hu3 hz3
    go_enter Try.func22, Try.ntmps22
    go_upto_region 1 with fail
    rw [HW3.out]
    have c0 : W3.cell? ⟨w.heap.size, 0, none⟩ = some (.int .i64 kk) := cell_box HX3.out rfl rfl
    have c1 : W3.cell? ⟨w.heap.size, 1, none⟩ = some (.int .i64 nn) := cell_box HX3.out rfl rfl
    have c2 : W3.cell? ⟨w.heap.size, 2, none⟩ = some (.slice a m cap) := cell_box HX3.out rfl rfl
    by_cases h5 : kk = 5
    · have g5 : (kk == 5) = true := by simp [h5]
      have HH := Lib.hid (HD.out h5)
      have d0 : W3.cell? ⟨w.heap.size + 1, 0, none⟩ = some (.int .i64 kk') := cell_box HU3.out rfl rfl
      have d1 : W3.cell? ⟨w.heap.size + 1, 1, none⟩ = some (.int .i64 nn') := cell_box HU3.out rfl rfl
      have d2 : W3.cell? ⟨w.heap.size + 1, 2, none⟩ = some (.slice a' m' cap') := cell_box HU3.out rfl rfl
      obtain ⟨z0, z1, z2, f0, f1, f2⟩ := zero_three HZ3.out
      have HF := Lib.hid (box_set3 (v0 := .int .i64 kk') (v1 := .int .i64 nn') (v2 := .slice a' m' cap') HZ3.out)
      have HBF := Lib.hid (put3 (bb := w.heap.size + 2) (v0 := .int .i64 kk') (v1 := .int .i64 nn') (v2 := .slice a' m' cap') HB3.out (by omega))
      clear h5
      go_wp2_with fail
      have hF := HF.out; have hbF := HBF.out
      clear c0 c1 c2 d0 d1 d2 z0 z1 z2 f0 f1 f2
      generalize ((W3.setCell ⟨w.heap.size + 2, 0, none⟩ (.int .i64 kk')).setCell ⟨w.heap.size + 2, 1, none⟩ (.int .i64 nn')).setCell ⟨w.heap.size + 2, 2, none⟩ (.slice a' m' cap') = F at hF hbF ⊢
      refine bodyPost_ret_by (v := .agg #[.int .i64 kk', .int .i64 nn', .slice a' m' cap']) (results_cell_row (p := 4) (ty := 24) (by kernel_rfl) _ _ (w.heap.size + 2) 24 _ (0, 0) _ rfl hF Try.underlying24 rfl (by kernel_rfl)) rfl ⟨kk', nn', m', a', cap', by rw [HH.out]; exact HV'.out, rfl, by rw [HH.out]; exact HMIX.out _ _ _ HTY'.out _ hbF, hbF⟩
    · have g5 : (kk == 5) = false := by simp [h5]
      obtain ⟨W4, hW4⟩ : ∃ W, W3.alloc (.cells #[.int .i64 kk, .int .i64 nn, .slice none 0 0] 24) = W := ⟨_, rfl⟩
      have hb34 : Below W3.heap.size W3 W4 := by rw [← hW4]; exact (Below.refl _ _).alloc (Nat.le_refl _) _
      have hg4 : W4.heap[w.heap.size + 3]? = some (.cells #[.int .i64 kk, .int .i64 nn, .slice none 0 0] 24) := by rw [← hW4, ← HS3.out]; exact World.alloc_heap_new W3 _
      have hs4 : W4.heap.size = w.heap.size + 4 := by rw [← hW4, World.size_alloc, HS3.out]
      have H4 := Lib.hid (show Below w.heap.size w W4 ∧ W4.heap[w.heap.size]? = some (.cells #[.int .i64 kk, .int .i64 nn, .slice a m cap] 24) ∧ W4.heap[w.heap.size + 1]? = some (.cells #[.int .i64 kk', .int .i64 nn', .slice a' m' cap'] 24) ∧ W4.heap[w.heap.size + 2]? = some (.cells #[.int .i64 0, .int .i64 0, .slice none 0 0] 24) from ⟨HB3.out.tr hb34 (Nat.le_refl _), (hb34.block _ (by have := HS3.out; omega)).trans HX3.out, (hb34.block _ (by have := HS3.out; omega)).trans HU3.out, (hb34.block _ (by have := HS3.out; omega)).trans HZ3.out⟩)
      have HG4 := Lib.hid hg4; have HS4 := Lib.hid hs4; have HW4 := Lib.hid hW4
      clear hW4 hb34 hg4 hs4
      go_upto_region 4 with fail
      clear c0 c1 c2
      rw [HW4.out, HS3.out]
      by_cases hkk : kk = kk'
      · skip
        obtain rfl := HMM.out hkk
        have HFL := Lib.hid (HE.out h5 hkk)
        have gk : (kk == kk') = true := by simp [hkk]
        have HHK := Lib.hid hkk
        clear h5 hkk
        go_wp2_with fail
        go_loopg [6] m (fun gk i wr => ∃ (k : Nat) (ks : List Ke) (v : Value), k ≤ m ∧ i = .int .i64 (k : Int) ∧ ks.map Ke.t = Tp.fills (t.kids.take k) (u.kids.take k) ∧ ks.length = k ∧ RowM A (w.heap.size + 4) wr v ks ∧ wr.heap[w.heap.size]? = some (.cells #[.int .i64 kk, .int .i64 nn, .slice a m cap] 24) ∧ wr.heap[w.heap.size + 1]? = some (.cells #[.int .i64 kk', .int .i64 nn', .slice a' m cap'] 24) ∧ wr.heap[w.heap.size + 2]? = some (.cells #[.int .i64 0, .int .i64 0, .slice none 0 0] 24) ∧ wr.heap[w.heap.size + 3]? = some (.cells #[.int .i64 kk, .int .i64 nn, v] 24) ∧ Below w.heap.size w wr ∧ w.heap.size + 4 ≤ wr.heap.size ∧ gk = m - k)
        case atStart => exact ⟨0, [], _, Nat.zero_le _, rfl, by simp [Tp.fills], rfl, RowM.nil _ _ _, H4.out.2.1, H4.out.2.2.1, H4.out.2.2.2, HG4.out, H4.out.1, by have := HS4.out; omega, rfl⟩
        case round =>
          obtain ⟨k, ks, v, hk, rfl, hks, hkl, hrow, hbt, hbu, hbz, hbg, hbw, hsz, rfl⟩ := hrel
          obtain ⟨va, vcap, rfl⟩ := own_shapeT hrow.own
          rw [hkl] at hrow hbg
          have cg0 : wr.cell? ⟨w.heap.size + 3, 0, none⟩ = some (.int .i64 kk) := cell_box hbg rfl rfl
          have cg1 : wr.cell? ⟨w.heap.size + 3, 1, none⟩ = some (.int .i64 nn) := cell_box hbg rfl rfl
          have cg2 : wr.cell? ⟨w.heap.size + 3, 2, none⟩ = some (.slice va k vcap) := cell_box hbg rfl rfl
          have ct : wr.cell? ⟨w.heap.size, 2, none⟩ = some (.slice a m cap) := cell_box hbt rfl rfl
          have HKS := Lib.hid hks; have HKL := Lib.hid hkl; have HROW := Lib.hid hrow; have HBT := Lib.hid hbt; have HBU := Lib.hid hbu; have HBZ := Lib.hid hbz; have HBG := Lib.hid hbg; have HBW := Lib.hid hbw; have HSZ := Lib.hid hsz
          clear hks hkl hrow hbt hbu hbz hbg hbw hsz
          by_cases hlt : k < m
          · skip
            have hkx : k < t.kids.length := by rw [HV.out.2.2]; exact hlt
            have hky : k < u.kids.length := by rw [HV'.out.2.2]; exact hlt
            have hAw : Below A w wr := HBW.out.mono HA.out
            obtain ⟨b1, o1, xa, xcap, rfl, hbn, hx, x0, x1, x2⟩ := kid_in HTY.out hAw hkx
            obtain ⟨b2, o2, ya, ycap, rfl, hbn', hy, y0, y1, y2⟩ := kid_in HTY'.out hAw hky
            have hsx : Tp.size t.kids[k] ≤ s ∧ Tp.size t.kids[k] ≤ 10000 := by have := HN.out; have := HS.out; have := size_kid t.kids k hkx; have := size_kids t; omega
            have hrx := rights_at (kids_right HRT.out) k hkx
            have hry := rights_at (kids_right HRU.out) k hky
            have hst := Tp.fills_take t.kids u.kids k hkx hky
            obtain ⟨x, hx'⟩ : ∃ x, t.kids[k] = x := ⟨_, rfl⟩
            rw [hx'] at x0 x1 x2 hsx hrx hx hst
            obtain ⟨y, hy'⟩ : ∃ x, u.kids[k] = x := ⟨_, rfl⟩
            rw [hy'] at y0 y1 y2 hry hy hst
            obtain ⟨xk, xn, xm, hvx⟩ := TV.mk x
            rw [hvx.1] at x0; rw [hvx.2.1] at x1; rw [hvx.2.2] at x2
            obtain ⟨yk, yn, ym, hvy⟩ := TV.mk y
            rw [hvy.1] at y0; rw [hvy.2.1] at y1; rw [hvy.2.2] at y2
            obtain ⟨W5, hW5⟩ : ∃ W, wr.alloc (.cells #[.int .i64 xk, .int .i64 xn, .slice xa xm xcap] 24) = W := ⟨_, rfl⟩
            have hb5 : Below wr.heap.size wr W5 := by rw [← hW5]; exact (Below.refl _ _).alloc (Nat.le_refl _) _
            have hg5 : W5.heap[wr.heap.size]? = some (.cells #[.int .i64 xk, .int .i64 xn, .slice xa xm xcap] 24) := by rw [← hW5]; exact World.alloc_heap_new wr _
            have hs5 : W5.heap.size = wr.heap.size + 1 := by rw [← hW5]; simp
            have hAr : A ≤ wr.heap.size := Nat.le_trans HA.out HBW.out.size
            have hx5 : TyAt (LT A) W5 x xa xcap := hx.below (hb5.mono hAr) (fun _ h => h) (fun _ h => h)
            have hy5 : TyAt (LT A) W5 y ya ycap := hy.below (hb5.mono hAr) (fun _ h => h) (fun _ h => h)
            have hbt2 := HBT.out; have hbu2 := HBU.out
            have HW5 := Lib.hid hW5; have HB5 := Lib.hid hb5; have HG5 := Lib.hid hg5; have HS5 := Lib.hid hs5; have HAR := Lib.hid hAr; have HX5 := Lib.hid hx5; have HVX := Lib.hid hvx; have HST := Lib.hid hst; have HSX := Lib.hid hsx; have HRX := Lib.hid hrx
            have HY5 := Lib.hid hy5; have HVY := Lib.hid hvy; have HRY := Lib.hid hry
            have hi0 : (0 : Int) ≤ (k : Int) := Int.natCast_nonneg k
            have hi1 : (k : Int) < (m : Int) := by omega
            have HC := Lib.hid (fun q (hq : Below wr.heap.size W5 q) => (⟨(cell_box hbt2 ((hb5.trans hq).block _ (by have := HSZ.out; omega)) rfl), (cell_box hbu2 ((hb5.trans hq).block _ (by have := HSZ.out; omega)) rfl), ((hb5.trans hq).cell (p := ⟨b1, o1 + k * 3, none⟩) (Nat.lt_of_lt_of_le hbn hAr)).trans x0, ((hb5.trans hq).cell (p := ⟨b1, o1 + k * 3 + 1, none⟩) (Nat.lt_of_lt_of_le hbn hAr)).trans x1, ((hb5.trans hq).cell (p := ⟨b1, o1 + k * 3 + 2, none⟩) (Nat.lt_of_lt_of_le hbn hAr)).trans x2, ((hb5.trans hq).cell (p := ⟨b2, o2 + k * 3, none⟩) (Nat.lt_of_lt_of_le hbn' hAr)).trans y0, ((hb5.trans hq).cell (p := ⟨b2, o2 + k * 3 + 1, none⟩) (Nat.lt_of_lt_of_le hbn' hAr)).trans y1, ((hb5.trans hq).cell (p := ⟨b2, o2 + k * 3 + 2, none⟩) (Nat.lt_of_lt_of_le hbn' hAr)).trans y2⟩ : q.cell? ⟨w.heap.size, 2, none⟩ = some (.slice (some ⟨b1, o1, none⟩) m cap) ∧ q.cell? ⟨w.heap.size + 1, 2, none⟩ = some (.slice (some ⟨b2, o2, none⟩) m cap') ∧ q.cell? ⟨b1, o1 + k * 3, none⟩ = some (.int .i64 xk) ∧ q.cell? ⟨b1, o1 + k * 3 + 1, none⟩ = some (.int .i64 xn) ∧ q.cell? ⟨b1, o1 + k * 3 + 2, none⟩ = some (.slice xa xm xcap) ∧ q.cell? ⟨b2, o2 + k * 3, none⟩ = some (.int .i64 yk) ∧ q.cell? ⟨b2, o2 + k * 3 + 1, none⟩ = some (.int .i64 yn) ∧ q.cell? ⟨b2, o2 + k * 3 + 2, none⟩ = some (.slice ya ym ycap)))
            clear hW5 hb5 hg5 hs5 hAr hx5 hvx hst hsx hrx hx hx' hbn hAw hy5 hvy hry hy hy' hbn'
            go_upto_region 8 with fail
            rw [HW5.out]
            clear x0 x1 x2 cg0 cg1 cg2 ct y0 y1 y2 hbt2 hbu2
            have ct0 : W5.cell? ⟨w.heap.size, 0, none⟩ = some (.int .i64 kk) := cell_box HBT.out (HB5.out.block _ (by have := HSZ.out; omega)) rfl
            have cu0 : W5.cell? ⟨w.heap.size + 1, 0, none⟩ = some (.int .i64 kk') := cell_box HBU.out (HB5.out.block _ (by have := HSZ.out; omega)) rfl
            go_upto_region 9 with fail
            clear ct0 cu0
            refine wp_region_rel (R := Below wr.heap.size) (fun _ => Below.refl _ _) (fun h1 h2 => h1.trans h2) [(0, false), (0, false), (0, false), (0, false), (0, false), (0, false), (0, false), (0, false), (0, false), (0, false), (0, true), (0, true)] (by kernel_rfl) (by kernel_rfl) (by kernel_rfl) (fun _ _ _ d _ h => by cases d <;> exact h) ?_
            have hbd : Below wr.heap.size W5 W5.drew := (Below.refl _ _).drew
            have hxd : TyAt (LT A) W5.drew x xa xcap := HX5.out.below (hbd.mono HAR.out) (fun _ h => h) (fun _ h => h)
            have hyd : TyAt (LT A) W5.drew y ya ycap := HY5.out.below (hbd.mono HAR.out) (fun _ h => h) (fun _ h => h)
            have hgd : W5.drew.heap[wr.heap.size]? = some (.cells #[.int .i64 xk, .int .i64 xn, .slice xa xm xcap] 24) := HG5.out
            have hsd : W5.drew.heap.size = wr.heap.size + 1 := HS5.out
            generalize W5.drew = wD at hbd hxd hyd hgd hsd ⊢
            have HBD := Lib.hid hbd; have HGD := Lib.hid hgd; have HSD := Lib.hid hsd
            have HCALL := Lib.hid (IH.out x y xk xn xm xa xcap yk yn ym ya ycap wD HVX.out HVY.out HSX.out.1 HSX.out.2 HRX.out HRY.out (by have := HAR.out; omega) hxd hyd)
            clear hbd hxd hyd hgd hsd
            repeat
              first
              | (first | with_reducible refine rp0 (fun K hK => ?_) | with_reducible refine rp1 (fun K hK => ?_) | with_reducible refine rp2 (fun K hK => ?_) | with_reducible refine rp3 (fun K hK => ?_) | with_reducible refine rp4 (fun K hK => ?_)
                 go_simp
                 first
                 | (with_reducible refine hK _ _ ?_; clear hK K)
                 | (with_reducible apply Exists.intro
                    refine ⟨fun x hx => ?_, hK _ _ ?_⟩
                    first
                      | (with_reducible exact rfl)
                      | (have y0 := (HC.out x (HBD.out.trans hx)).1; have y1 := (HC.out x (HBD.out.trans hx)).2.1; have y2 := (HC.out x (HBD.out.trans hx)).2.2.1; have y3 := (HC.out x (HBD.out.trans hx)).2.2.2.1; have y4 := (HC.out x (HBD.out.trans hx)).2.2.2.2.1; have y5 := (HC.out x (HBD.out.trans hx)).2.2.2.2.2.1; have y6 := (HC.out x (HBD.out.trans hx)).2.2.2.2.2.2.1; have y7 := (HC.out x (HBD.out.trans hx)).2.2.2.2.2.2.2; go_simp; done)
                      | (have y0 := (HC.out x (HBD.out.trans hx)).1; have y1 := (HC.out x (HBD.out.trans hx)).2.1; have y2 := (HC.out x (HBD.out.trans hx)).2.2.1; have y3 := (HC.out x (HBD.out.trans hx)).2.2.2.1; have y4 := (HC.out x (HBD.out.trans hx)).2.2.2.2.1; have y5 := (HC.out x (HBD.out.trans hx)).2.2.2.2.2.1; have y6 := (HC.out x (HBD.out.trans hx)).2.2.2.2.2.2.1; have y7 := (HC.out x (HBD.out.trans hx)).2.2.2.2.2.2.2; go_simp; with_reducible exact rfl)
                    clear hK K))
              | (first | with_reducible refine rk0 ?_ (fun K hK => ?_) | with_reducible refine rk1 ?_ (fun K hK => ?_) | with_reducible refine rk2 ?_ (fun K hK => ?_) | with_reducible refine rk3 ?_ (fun K hK => ?_) | with_reducible refine rk4 ?_ (fun K hK => ?_)
                 rfl
                 go_simp
                 with_reducible refine hK _ _ ?_
                 clear hK K)
            first | with_reducible refine rc0 (fun K hK => ?_) | with_reducible refine rc1 (fun K hK => ?_) | with_reducible refine rc2 (fun K hK => ?_) | with_reducible refine rc3 (fun K hK => ?_) | with_reducible refine rc4 (fun K hK => ?_)
            go_simp
            refine HCALL.out.mono ?_
            rintro e w6 ⟨zk, zn, zm, za, zc, hvz, rfl, htz, hb⟩
            refine ⟨hb.mono (by have := HSD.out; omega), hK _ _ ?_⟩
            clear hK K
            have hg6 : w6.heap[wr.heap.size]? = some (.cells #[.int .i64 xk, .int .i64 xn, .slice xa xm xcap] 24) := (hb.block _ (by have := HSD.out; omega)).trans HGD.out
            have q0 : w6.cell? ⟨wr.heap.size, 0, none⟩ = some (.int .i64 xk) := cell_box hg6 rfl rfl
            have q1 : w6.cell? ⟨wr.heap.size, 1, none⟩ = some (.int .i64 xn) := cell_box hg6 rfl rfl
            have q2 : w6.cell? ⟨wr.heap.size, 2, none⟩ = some (.slice xa xm xcap) := cell_box hg6 rfl rfl
            have f0 : w6.frozen? ⟨wr.heap.size, 0, none⟩ = false := IsC.frozen ⟨_, _, hg6⟩
            have f1 : w6.frozen? ⟨wr.heap.size, 1, none⟩ = false := IsC.frozen ⟨_, _, hg6⟩
            have f2 : w6.frozen? ⟨wr.heap.size, 2, none⟩ = false := IsC.frozen ⟨_, _, hg6⟩
            have HF := Lib.hid (box_set3 (v0 := .int .i64 zk) (v1 := .int .i64 zn) (v2 := .slice za zm zc) hg6)
            have HBR := Lib.hid (put3 (bb := wr.heap.size) (v0 := .int .i64 zk) (v1 := .int .i64 zn) (v2 := .slice za zm zc) (Below.refl wr.heap.size w6) (Nat.le_refl _))
            have hb56 : Below wr.heap.size wr w6 := (HB5.out.trans HBD.out).trans (hb.mono (by have := HSD.out; omega))
            have hw6 := put3 (bb := wr.heap.size) (v0 := .int .i64 zk) (v1 := .int .i64 zn) (v2 := .slice za zm zc) hb56 (Nat.le_refl _)
            have hmx : TyAt (Mix A wr (((w6.setCell ⟨wr.heap.size, 0, none⟩ (.int .i64 zk)).setCell ⟨wr.heap.size, 1, none⟩ (.int .i64 zn)).setCell ⟨wr.heap.size, 2, none⟩ (.slice za zm zc))) (((w6.setCell ⟨wr.heap.size, 0, none⟩ (.int .i64 zk)).setCell ⟨wr.heap.size, 1, none⟩ (.int .i64 zn)).setCell ⟨wr.heap.size, 2, none⟩ (.slice za zm zc)) (Tp.fill x y) za zc := ty_same (fun z hz => set3_other (by have := hz.1; have := HSD.out; have := HAR.out; omega)) (fun z hz => ⟨hz.1.imp id (fun h => by have := HSD.out; omega), by rw [size_setCell, size_setCell, size_setCell]; exact hz.2⟩) htz
            have HW6' := Lib.hid hw6; have HMX' := Lib.hid hmx; have HVR := Lib.hid hvz
            clear hg6 hb56 hw6 hmx hvz htz hb
            first | with_reducible refine rc0 (fun K hK => ?_) | with_reducible refine rc1 (fun K hK => ?_) | with_reducible refine rc2 (fun K hK => ?_) | with_reducible refine rc3 (fun K hK => ?_) | with_reducible refine rc4 (fun K hK => ?_)
            go_simp
            refine ⟨HBR.out, hK _ _ ?_⟩
            clear hK K
            have hF := HF.out; have hw6 := HW6'.out; have hmx := HMX'.out
            clear q0 q1 q2 f0 f1 f2
            generalize ((w6.setCell ⟨wr.heap.size, 0, none⟩ (.int .i64 zk)).setCell ⟨wr.heap.size, 1, none⟩ (.int .i64 zn)).setCell ⟨wr.heap.size, 2, none⟩ (.slice za zm zc) = W6 at hF hw6 hmx ⊢
            have HG6 := Lib.hid hF; have HW6 := Lib.hid hw6; have HMX := Lib.hid hmx
            clear hF hw6 hmx HF HW6' HMX' HBR hi0 hi1
            with_reducible refine rel_nil ?_
            have hu7 : W6.heap[w.heap.size + 3]? = some (.cells #[.int .i64 kk, .int .i64 nn, .slice va k vcap] 24) := (HW6.out.block _ (by have := HSZ.out; omega)).trans HBG.out
            have cu : W6.cell? ⟨w.heap.size + 3, 2, none⟩ = some (.slice va k vcap) := cell_box hu7 rfl rfl
            have d0 : W6.cell? ⟨wr.heap.size, 0, none⟩ = some (.int .i64 zk) := cell_box HG6.out rfl rfl
            have d1 : W6.cell? ⟨wr.heap.size, 1, none⟩ = some (.int .i64 zn) := cell_box HG6.out rfl rfl
            have d2 : W6.cell? ⟨wr.heap.size, 2, none⟩ = some (.slice za zm zc) := cell_box HG6.out rfl rfl
            have HL7 := Lib.hid (show w.heap.size + 3 < W6.heap.size by have := HSZ.out; have := HW6.out.size; omega)
            clear hu7
            go_upto_region 10 with fail
            obtain ⟨k40, kml⟩ := b40 (r := k) (Nat.le_trans (Nat.le_of_lt hlt) HM10.out)
            have B1 := Lib.hid k40; have B2 := Lib.hid kml
            clear k40 kml
            obtain ⟨i0, hi, hz0, hz1, hz2⟩ := info_parts info_ty
            go_wp2_with (at_builtin; refine wpList_append_lies _ rfl (.tmp 46) (.tmp 48) 22 rfl (w.heap.size + 4) 24 i0 (.agg #[.int .i64 0, .int .i64 0, .slice none 0 0]) 3 40 Try.underlying22 hi hz0 hz1 hz2 rfl (by decide) (.slice va k vcap) k (rowCells ks) rfl ((own_len (HROW.out.keep (fun y _ hy => HW6.out.block y hy) HW6.out.size).own HKL.out).alloc _) ⟨W6.heap.size, 0, none⟩ 1 1 [.int .i64 zk, .int .i64 zn, .slice za zm zc] rfl rfl (World.news_of_block (World.alloc_heap_new W6 _)) (three_one _ _ _ _ _) (by decide) B2.out B1.out (by have := HL7.out; simp; omega) (W6.heap.size + 1) (by simp) ?_; intro g2 cap2 w9 own9 gr9 ly9 _; have lu9 := far_own gr9 HW6.out HBG.out HROW.out.own (by omega); have cu9 : w9.cell? ⟨w.heap.size + 3, 2, none⟩ = some (.slice va k vcap) := cell_box lu9 rfl rfl; have fu9 : w9.frozen? ⟨w.heap.size + 3, 2, none⟩ = false := IsC.frozen ⟨_, _, lu9⟩; have OW9 := Lib.hid own9; have GR9 := Lib.hid gr9; have LY9 := Lib.hid ly9; have LU9 := Lib.hid lu9; clear own9 gr9 ly9 lu9)
            have hrow9 := HROW.out.push HKL.out (e := ⟨(Tp.fill x y), za, zc⟩) (by have := HA.out; omega) (fun y hy => HW6.out.block y hy) HW6.out.size HSZ.out HMX.out (by simp only [keCells, HVR.out.1, HVR.out.2.1, HVR.out.2.2]; exact OW9.out) GR9.out LY9.out
            have lt9 := far_own GR9.out HW6.out HBT.out HROW.out.own (by omega)
            have lx9 := far_own GR9.out HW6.out HBU.out HROW.out.own (by omega)
            have lz9 := far_own GR9.out HW6.out HBZ.out HROW.out.own (by omega)
            have hsw : w.heap.size ≤ wr.heap.size := HBW.out.size
            have hb69 : Below w.heap.size W6 w9 := below_push (Below.refl _ _) GR9.out (fun z hz => by have := (HROW.out.own.lt z hz).1; omega) (by have := HL7.out; omega)
            have hb9 : Below w.heap.size w w9 := (HBW.out.trans (HW6.out.mono hsw)).trans hb69
            have hz9 : w.heap.size + 4 ≤ w9.heap.size := by have h1 := GR9.out.size; rw [World.size_alloc] at h1; have h2 := HW6.out.size; have h3 := HSZ.out; omega
            have R9 := Lib.hid hrow9; have LT9 := Lib.hid lt9; have LX9 := Lib.hid lx9; have LZ9 := Lib.hid lz9; have HB9 := Lib.hid hb9; have HZ9 := Lib.hid hz9
            clear hrow9 lt9 lx9 lz9 hb9 hz9 hb69 hsw hi hz0 hz1 hz2 d0 d1 d2
            go_wp2_with fail
            go_roundg (m - (k + 1))
            case measure => omega
            case rel =>
              refine ⟨k + 1, ks ++ [⟨(Tp.fill x y), za, zc⟩], _, by omega, by exact wrap_k (Nat.le_trans (Nat.le_of_lt hlt) HM10.out), ?_, by rw [List.length_append, HKL.out]; rfl, R9.out.keep (fun y hy _ => Below.heap_setCell _ _ _ y (by have := HA.out; dsimp only; omega)) (by rw [size_setCell]; exact Nat.le_refl _), ?_, ?_, ?_, set2 LU9.out, HB9.out.setCell (by dsimp only; omega) _, by rw [size_setCell]; exact HZ9.out, rfl⟩
              · rw [HST.out, List.map_append, HKS.out]; rfl
              · exact (Below.heap_setCell _ _ _ _ (by dsimp only; omega)).trans LT9.out
              · exact (Below.heap_setCell _ _ _ _ (by dsimp only; omega)).trans LX9.out
              · exact (Below.heap_setCell _ _ _ _ (by dsimp only; omega)).trans LZ9.out
          · skip
            obtain rfl : k = m := by omega
            have hks : ks.map Ke.t = Tp.fills t.kids u.kids := by rw [HKS.out, List.take_of_length_le (by rw [HV.out.2.2]; exact Nat.le_refl _), List.take_of_length_le (by rw [HV'.out.2.2]; exact Nat.le_refl _)]
            have HRS := Lib.hid (show Tp.fill t u = .mk kk nn (ks.map Ke.t) by rw [HFL.out, HV.out.1, HV.out.2.1, hks])
            obtain ⟨z0, z1, z2, f0, f1, f2⟩ := zero_three HBZ.out
            have HR2 := Lib.hid (HROW.out.keep (w' := ((wr.setCell ⟨w.heap.size + 2, 0, none⟩ (.int .i64 kk)).setCell ⟨w.heap.size + 2, 1, none⟩ (.int .i64 nn)).setCell ⟨w.heap.size + 2, 2, none⟩ (.slice va k vcap)) (fun y hy _ => set3_other (by have := HA.out; omega)) (by rw [size_setCell, size_setCell, size_setCell]; exact Nat.le_refl _))
            have HF := Lib.hid (box_set3 (v0 := .int .i64 kk) (v1 := .int .i64 nn) (v2 := .slice va k vcap) HBZ.out)
            have HBF := Lib.hid (put3 (bb := w.heap.size + 2) (v0 := .int .i64 kk) (v1 := .int .i64 nn) (v2 := .slice va k vcap) HBW.out (by omega))
            clear hks
            go_wp2_with fail
            have hF := HF.out; have hbF := HBF.out; have hr2 := HR2.out
            clear cg0 cg1 cg2 ct z0 z1 z2 f0 f1 f2
            generalize ((wr.setCell ⟨w.heap.size + 2, 0, none⟩ (.int .i64 kk)).setCell ⟨w.heap.size + 2, 1, none⟩ (.int .i64 nn)).setCell ⟨w.heap.size + 2, 2, none⟩ (.slice va k vcap) = F at hF hbF hr2 ⊢
            have hsl := hr2.kids.2
            have hty : TyAt (Mix A w F) F (.mk kk nn (ks.map Ke.t)) va vcap := ty_same (fun _ _ => rfl) (fun z hz => ⟨hz.1.imp id (fun h => by omega), hz.2⟩) (show TyAt (fun b => (b < A ∨ w.heap.size + 4 ≤ b) ∧ b < F.heap.size) F (.mk kk nn (ks.map Ke.t)) va vcap from ⟨HIK.out.1, HIK.out.2, hsl⟩)
            exact bodyPost_ret_by (v := .agg #[.int .i64 kk, .int .i64 nn, .slice va k vcap]) (results_cell_row (p := 4) (ty := 24) (by kernel_rfl) _ _ (w.heap.size + 2) 24 _ (0, 0) _ rfl hF Try.underlying24 rfl (by kernel_rfl)) rfl ⟨kk, nn, k, va, vcap, by rw [HRS.out]; exact ⟨rfl, rfl, (List.length_map ..).trans HKL.out⟩, rfl, by rw [HRS.out]; exact hty, hbF⟩
      · skip
        have HFL := Lib.hid (HNE.out h5 hkk)
        have gk : (kk == kk') = false := by simp [hkk]
        clear h5 hkk
        go_wp2_with fail
        go_loopg [6] m (fun gk i wr => ∃ (k : Nat) (ks : List Ke) (v : Value), k ≤ m ∧ i = .int .i64 (k : Int) ∧ ks.map Ke.t = t.kids.take k ∧ ks.length = k ∧ RowM A (w.heap.size + 4) wr v ks ∧ wr.heap[w.heap.size]? = some (.cells #[.int .i64 kk, .int .i64 nn, .slice a m cap] 24) ∧ wr.heap[w.heap.size + 1]? = some (.cells #[.int .i64 kk', .int .i64 nn', .slice a' m' cap'] 24) ∧ wr.heap[w.heap.size + 2]? = some (.cells #[.int .i64 0, .int .i64 0, .slice none 0 0] 24) ∧ wr.heap[w.heap.size + 3]? = some (.cells #[.int .i64 kk, .int .i64 nn, v] 24) ∧ Below w.heap.size w wr ∧ w.heap.size + 4 ≤ wr.heap.size ∧ gk = m - k)
        case atStart => exact ⟨0, [], _, Nat.zero_le _, rfl, by simp, rfl, RowM.nil _ _ _, H4.out.2.1, H4.out.2.2.1, H4.out.2.2.2, HG4.out, H4.out.1, by have := HS4.out; omega, rfl⟩
        case round =>
          obtain ⟨k, ks, v, hk, rfl, hks, hkl, hrow, hbt, hbu, hbz, hbg, hbw, hsz, rfl⟩ := hrel
          obtain ⟨va, vcap, rfl⟩ := own_shapeT hrow.own
          rw [hkl] at hrow hbg
          have cg0 : wr.cell? ⟨w.heap.size + 3, 0, none⟩ = some (.int .i64 kk) := cell_box hbg rfl rfl
          have cg1 : wr.cell? ⟨w.heap.size + 3, 1, none⟩ = some (.int .i64 nn) := cell_box hbg rfl rfl
          have cg2 : wr.cell? ⟨w.heap.size + 3, 2, none⟩ = some (.slice va k vcap) := cell_box hbg rfl rfl
          have ct : wr.cell? ⟨w.heap.size, 2, none⟩ = some (.slice a m cap) := cell_box hbt rfl rfl
          have HKS := Lib.hid hks; have HKL := Lib.hid hkl; have HROW := Lib.hid hrow; have HBT := Lib.hid hbt; have HBU := Lib.hid hbu; have HBZ := Lib.hid hbz; have HBG := Lib.hid hbg; have HBW := Lib.hid hbw; have HSZ := Lib.hid hsz
          clear hks hkl hrow hbt hbu hbz hbg hbw hsz
          by_cases hlt : k < m
          · skip
            have hkx : k < t.kids.length := by rw [HV.out.2.2]; exact hlt
            have hAw : Below A w wr := HBW.out.mono HA.out
            obtain ⟨b1, o1, xa, xcap, rfl, hbn, hx, x0, x1, x2⟩ := kid_in HTY.out hAw hkx
            have hsx : Tp.size t.kids[k] ≤ s ∧ Tp.size t.kids[k] ≤ 10000 := by have := HN.out; have := HS.out; have := size_kid t.kids k hkx; have := size_kids t; omega
            have hrx := rights_at (kids_right HRT.out) k hkx
            have hst : t.kids.take (k + 1) = t.kids.take k ++ [t.kids[k]] := List.take_succ_eq_append_getElem hkx
            obtain ⟨x, hx'⟩ : ∃ x, t.kids[k] = x := ⟨_, rfl⟩
            rw [hx'] at x0 x1 x2 hsx hrx hx hst
            obtain ⟨xk, xn, xm, hvx⟩ := TV.mk x
            rw [hvx.1] at x0; rw [hvx.2.1] at x1; rw [hvx.2.2] at x2
            obtain ⟨W5, hW5⟩ : ∃ W, wr.alloc (.cells #[.int .i64 xk, .int .i64 xn, .slice xa xm xcap] 24) = W := ⟨_, rfl⟩
            have hb5 : Below wr.heap.size wr W5 := by rw [← hW5]; exact (Below.refl _ _).alloc (Nat.le_refl _) _
            have hg5 : W5.heap[wr.heap.size]? = some (.cells #[.int .i64 xk, .int .i64 xn, .slice xa xm xcap] 24) := by rw [← hW5]; exact World.alloc_heap_new wr _
            have hs5 : W5.heap.size = wr.heap.size + 1 := by rw [← hW5]; simp
            have hAr : A ≤ wr.heap.size := Nat.le_trans HA.out HBW.out.size
            have hx5 : TyAt (LT A) W5 x xa xcap := hx.below (hb5.mono hAr) (fun _ h => h) (fun _ h => h)
            have HW5 := Lib.hid hW5; have HB5 := Lib.hid hb5; have HG5 := Lib.hid hg5; have HS5 := Lib.hid hs5; have HAR := Lib.hid hAr; have HX5 := Lib.hid hx5; have HVX := Lib.hid hvx; have HST := Lib.hid hst; have HSX := Lib.hid hsx; have HRX := Lib.hid hrx
            have hi0 : (0 : Int) ≤ (k : Int) := Int.natCast_nonneg k
            have hi1 : (k : Int) < (m : Int) := by omega
            clear hW5 hb5 hg5 hs5 hAr hx5 hvx hst hsx hrx hx hx' hbn hAw
            go_upto_region 8 with fail
            rw [HW5.out]
            clear x0 x1 x2 cg0 cg1 cg2 ct hi0 hi1
            have ct0 : W5.cell? ⟨w.heap.size, 0, none⟩ = some (.int .i64 kk) := cell_box HBT.out (HB5.out.block _ (by have := HSZ.out; omega)) rfl
            have cu0 : W5.cell? ⟨w.heap.size + 1, 0, none⟩ = some (.int .i64 kk') := cell_box HBU.out (HB5.out.block _ (by have := HSZ.out; omega)) rfl
            have hw6 : Below wr.heap.size wr W5 := HB5.out
            have hg6 := HG5.out
            have hmx : TyAt (Mix A wr W5) W5 x xa xcap := ty_same (fun _ _ => rfl) (fun b h => ⟨.inl h, Nat.lt_of_lt_of_le h (Nat.le_trans HAR.out HB5.out.size)⟩) HX5.out
            have HW6 := Lib.hid hw6; have HG6 := Lib.hid hg6; have HMX := Lib.hid hmx; have HVR := Lib.hid (show TV x xk xn xm from HVX.out)
            clear hw6 hg6 hmx
            have hu7 : W5.heap[w.heap.size + 3]? = some (.cells #[.int .i64 kk, .int .i64 nn, .slice va k vcap] 24) := (HW6.out.block _ (by have := HSZ.out; omega)).trans HBG.out
            have cu : W5.cell? ⟨w.heap.size + 3, 2, none⟩ = some (.slice va k vcap) := cell_box hu7 rfl rfl
            have d0 : W5.cell? ⟨wr.heap.size, 0, none⟩ = some (.int .i64 xk) := cell_box HG6.out rfl rfl
            have d1 : W5.cell? ⟨wr.heap.size, 1, none⟩ = some (.int .i64 xn) := cell_box HG6.out rfl rfl
            have d2 : W5.cell? ⟨wr.heap.size, 2, none⟩ = some (.slice xa xm xcap) := cell_box HG6.out rfl rfl
            have HL7 := Lib.hid (show w.heap.size + 3 < W5.heap.size by have := HSZ.out; have := HW6.out.size; omega)
            clear hu7
            go_upto_region 10 with fail
            clear ct0 cu0
            obtain ⟨k40, kml⟩ := b40 (r := k) (Nat.le_trans (Nat.le_of_lt hlt) HM10.out)
            have B1 := Lib.hid k40; have B2 := Lib.hid kml
            clear k40 kml
            obtain ⟨i0, hi, hz0, hz1, hz2⟩ := info_parts info_ty
            go_wp2_with (at_builtin; refine wpList_append_lies _ rfl (.tmp 46) (.tmp 48) 22 rfl (w.heap.size + 4) 24 i0 (.agg #[.int .i64 0, .int .i64 0, .slice none 0 0]) 3 40 Try.underlying22 hi hz0 hz1 hz2 rfl (by decide) (.slice va k vcap) k (rowCells ks) rfl ((own_len (HROW.out.keep (fun y _ hy => HW6.out.block y hy) HW6.out.size).own HKL.out).alloc _) ⟨W5.heap.size, 0, none⟩ 1 1 [.int .i64 xk, .int .i64 xn, .slice xa xm xcap] rfl rfl (World.news_of_block (World.alloc_heap_new W5 _)) (three_one _ _ _ _ _) (by decide) B2.out B1.out (by have := HL7.out; simp; omega) (W5.heap.size + 1) (by simp) ?_; intro g2 cap2 w9 own9 gr9 ly9 _; have lu9 := far_own gr9 HW6.out HBG.out HROW.out.own (by omega); have cu9 : w9.cell? ⟨w.heap.size + 3, 2, none⟩ = some (.slice va k vcap) := cell_box lu9 rfl rfl; have fu9 : w9.frozen? ⟨w.heap.size + 3, 2, none⟩ = false := IsC.frozen ⟨_, _, lu9⟩; have OW9 := Lib.hid own9; have GR9 := Lib.hid gr9; have LY9 := Lib.hid ly9; have LU9 := Lib.hid lu9; clear own9 gr9 ly9 lu9)
            have hrow9 := HROW.out.push HKL.out (e := ⟨x, xa, xcap⟩) (by have := HA.out; omega) (fun y hy => HW6.out.block y hy) HW6.out.size HSZ.out HMX.out (by simp only [keCells, HVR.out.1, HVR.out.2.1, HVR.out.2.2]; exact OW9.out) GR9.out LY9.out
            have lt9 := far_own GR9.out HW6.out HBT.out HROW.out.own (by omega)
            have lx9 := far_own GR9.out HW6.out HBU.out HROW.out.own (by omega)
            have lz9 := far_own GR9.out HW6.out HBZ.out HROW.out.own (by omega)
            have hsw : w.heap.size ≤ wr.heap.size := HBW.out.size
            have hb69 : Below w.heap.size W5 w9 := below_push (Below.refl _ _) GR9.out (fun z hz => by have := (HROW.out.own.lt z hz).1; omega) (by have := HL7.out; omega)
            have hb9 : Below w.heap.size w w9 := (HBW.out.trans (HW6.out.mono hsw)).trans hb69
            have hz9 : w.heap.size + 4 ≤ w9.heap.size := by have h1 := GR9.out.size; rw [World.size_alloc] at h1; have h2 := HW6.out.size; have h3 := HSZ.out; omega
            have R9 := Lib.hid hrow9; have LT9 := Lib.hid lt9; have LX9 := Lib.hid lx9; have LZ9 := Lib.hid lz9; have HB9 := Lib.hid hb9; have HZ9 := Lib.hid hz9
            clear hrow9 lt9 lx9 lz9 hb9 hz9 hb69 hsw hi hz0 hz1 hz2 d0 d1 d2
            go_wp2_with fail
            go_roundg (m - (k + 1))
            case measure => omega
            case rel =>
              refine ⟨k + 1, ks ++ [⟨x, xa, xcap⟩], _, by omega, by exact wrap_k (Nat.le_trans (Nat.le_of_lt hlt) HM10.out), ?_, by rw [List.length_append, HKL.out]; rfl, R9.out.keep (fun y hy _ => Below.heap_setCell _ _ _ y (by have := HA.out; dsimp only; omega)) (by rw [size_setCell]; exact Nat.le_refl _), ?_, ?_, ?_, set2 LU9.out, HB9.out.setCell (by dsimp only; omega) _, by rw [size_setCell]; exact HZ9.out, rfl⟩
              · rw [HST.out, List.map_append, HKS.out]; rfl
              · exact (Below.heap_setCell _ _ _ _ (by dsimp only; omega)).trans LT9.out
              · exact (Below.heap_setCell _ _ _ _ (by dsimp only; omega)).trans LX9.out
              · exact (Below.heap_setCell _ _ _ _ (by dsimp only; omega)).trans LZ9.out
          · skip
            obtain rfl : k = m := by omega
            have hks : ks.map Ke.t = t.kids := by rw [HKS.out, List.take_of_length_le (by rw [HV.out.2.2]; exact Nat.le_refl _)]
            have HRS := Lib.hid (show Tp.fill t u = .mk kk nn (ks.map Ke.t) by rw [HFL.out, hks]; have h1 := HV.out.1; have h2 := HV.out.2.1; cases t; simp only [Tp.T.kind, Tp.T.num] at h1 h2; subst h1 h2; rfl)
            obtain ⟨z0, z1, z2, f0, f1, f2⟩ := zero_three HBZ.out
            have HR2 := Lib.hid (HROW.out.keep (w' := ((wr.setCell ⟨w.heap.size + 2, 0, none⟩ (.int .i64 kk)).setCell ⟨w.heap.size + 2, 1, none⟩ (.int .i64 nn)).setCell ⟨w.heap.size + 2, 2, none⟩ (.slice va k vcap)) (fun y hy _ => set3_other (by have := HA.out; omega)) (by rw [size_setCell, size_setCell, size_setCell]; exact Nat.le_refl _))
            have HF := Lib.hid (box_set3 (v0 := .int .i64 kk) (v1 := .int .i64 nn) (v2 := .slice va k vcap) HBZ.out)
            have HBF := Lib.hid (put3 (bb := w.heap.size + 2) (v0 := .int .i64 kk) (v1 := .int .i64 nn) (v2 := .slice va k vcap) HBW.out (by omega))
            clear hks
            go_wp2_with fail
            have hF := HF.out; have hbF := HBF.out; have hr2 := HR2.out
            clear cg0 cg1 cg2 ct z0 z1 z2 f0 f1 f2
            generalize ((wr.setCell ⟨w.heap.size + 2, 0, none⟩ (.int .i64 kk)).setCell ⟨w.heap.size + 2, 1, none⟩ (.int .i64 nn)).setCell ⟨w.heap.size + 2, 2, none⟩ (.slice va k vcap) = F at hF hbF hr2 ⊢
            have hsl := hr2.kids.2
            have hty : TyAt (Mix A w F) F (.mk kk nn (ks.map Ke.t)) va vcap := ty_same (fun _ _ => rfl) (fun z hz => ⟨hz.1.imp id (fun h => by omega), hz.2⟩) (show TyAt (fun b => (b < A ∨ w.heap.size + 4 ≤ b) ∧ b < F.heap.size) F (.mk kk nn (ks.map Ke.t)) va vcap from ⟨HIK.out.1, HIK.out.2, hsl⟩)
            exact bodyPost_ret_by (v := .agg #[.int .i64 kk, .int .i64 nn, .slice va k vcap]) (results_cell_row (p := 4) (ty := 24) (by kernel_rfl) _ _ (w.heap.size + 2) 24 _ (0, 0) _ rfl hF Try.underlying24 rfl (by kernel_rfl)) rfl ⟨kk, nn, k, va, vcap, by rw [HRS.out]; exact ⟨rfl, rfl, (List.length_map ..).trans HKL.out⟩, rfl, by rw [HRS.out]; exact hty, hbF⟩
end Go.Proofs.Ytcnnahmchjeakaa

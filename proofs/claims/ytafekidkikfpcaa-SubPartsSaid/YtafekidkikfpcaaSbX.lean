/- sub.addKids, walked. -/
import Derived.Test.YtafekidkikfpcaaSbW
import Derived.Test.YtafekidkikfpcaaPbG
namespace Go.Proofs.Ytafekidkikfpcaa
open Go Go.RowKit
open Tp (T Md)

theorem wrap_kC {k : Nat} (h : k ≤ 20000) : Value.int .i64 (wrap64 ((k : Int) + 1)) = .int .i64 ((k + 1 : Nat) : Int) := by
  rw [show wrap64 ((k : Int) + 1) = ((k + 1 : Nat) : Int) from by unfold wrap64; omega]
set_option maxRecDepth 100000 in
set_option maxHeartbeats 4000000 in
theorem addKids_any (n : Nat) (d : Md) (x y : T) (xk xn : Int) (xm : Nat) (xa : Option Addr) (xcap : Nat) (yk yn : Int) (ym : Nat) (ya : Option Addr) (ycap : Nat) (R : List EnC) (v : Value) (w : World) (hvx : TV x xk xn xm) (hvy : TV y yk yn ym)
    (hn : n ≤ w.heap.size) (hx : TyAt (LT n) w x xa xcap) (hy : TyAt (LT n) w y ya ycap) (hrx : Tp.right x = true) (hry : Tp.right y = true) (hf : fits x y = true) (hown : w.ownsRow n 49 7 v R.length (stcCells R.reverse)) (hsm : R.length + xm ≤ 20000) :
    Calls Try.prog 39 #[.agg #[.int .i64 (mdv d), .int .i64 xk, .int .i64 xn, .slice xa xm xcap, .int .i64 yk, .int .i64 yn, .slice ya ym ycap], v] w fun e w' => ∃ v' E, e = .returned v' ∧ Below n w w' ∧ ClK n d x y R E xm v' w' := by
  obtain ⟨W1, hW1⟩ : ∃ W, w.alloc (.cells #[.int .i64 (mdv d), .int .i64 xk, .int .i64 xn, .slice xa xm xcap, .int .i64 yk, .int .i64 yn, .slice ya ym ycap] 49) = W := ⟨_, rfl⟩
  obtain ⟨hbx, hb1, hs1⟩ := box_cl hW1
  have hb0 : Below n w W1 := hb1.mono hn
  have hx1 := hx.below hb0 (fun _ h => h) (fun _ h => h)
  have hy1 := hy.below hb0 (fun _ h => h) (fun _ h => h)
  have hck : ClK n d x y R [] 0 v W1 := ⟨by rw [List.length_nil, Nat.zero_add, List.nil_append]; exact own_same hown (fun z hz => hb1.block _ (hown.lt z hz).2), (fun _ h => by cases h), rfl⟩
  obtain ⟨c0, c1, c2, c3, c4, c5, c6⟩ := cells_cl hbx
  have HW1 := Lib.hid hW1; have HB0 := Lib.hid hb0; have HBX := Lib.hid hbx; have HX1 := Lib.hid hx1; have HY1 := Lib.hid hy1; have HCK := Lib.hid hck; have HVX := Lib.hid hvx; have HVY := Lib.hid hvy; have HRX := Lib.hid hrx; have HRY := Lib.hid hry; have HF := Lib.hid hf; have HSM := Lib.hid hsm; have HN := Lib.hid hn; have HS1 := Lib.hid hs1
  have HFAR0 := Lib.hid (show v.ownBlock ≠ some w.heap.size from fun e => Nat.lt_irrefl _ (hown.lt _ e).2)
  have HM := Lib.hid (show xm ≤ 20000 by omega)
  clear hW1 hb1 hbx hs1 hb0 hx1 hy1 hck hvx hvy hn hx hy hrx hry hf hown hsm
  go_enter Try.func39, Try.ntmps39
  go_upto_region 1 with fail
  rw [HW1.out]
  go_wp2_with fail
  clear c0 c1 c2 c3 c4 c5 c6
  go_loopg [1, 12] xm (fun gk v i wr => ∃ E k, k ≤ xm ∧ i = .int .i64 (k : Int) ∧ ClK n d x y R E k v wr ∧ wr.heap[w.heap.size]? = some (.cells #[.int .i64 (mdv d), .int .i64 xk, .int .i64 xn, .slice xa xm xcap, .int .i64 yk, .int .i64 yn, .slice ya ym ycap] 49) ∧ v.ownBlock ≠ some w.heap.size ∧ Below n W1 wr ∧ gk = xm - k)
  case atStart => exact ⟨[], 0, Nat.zero_le _, rfl, HCK.out, HBX.out, HFAR0.out, Below.refl _ _, rfl⟩
  case round =>
    obtain ⟨E, k, hkm, rfl, hck, hbx, hfar, hb, rfl⟩ := hrel
    obtain ⟨av, cv, rfl⟩ := own_shapeT hck.own
    have HCKr := Lib.hid hck; have HBXr := Lib.hid hbx; have HBr := Lib.hid hb; have HFARr := Lib.hid hfar
    clear hck hbx hb hfar
    by_cases hlt : k < xm
    · have hkx : k < x.kids.length := by rw [HVX.out.2.2]; exact hlt
      obtain ⟨b, o, za, zcap, rfl, hbn, hz, z0, z1, z2⟩ := kid_in HX1.out HBr.out hkx
      have HZ := Lib.hid hz
      obtain ⟨zk, zn, zm, hvz⟩ := TV.mk x.kids[k]
      rw [hvz.1] at z0; rw [hvz.2.1] at z1; rw [hvz.2.2] at z2
      have HVZ := Lib.hid hvz
      obtain ⟨c0, c1, c2, c3, c4, c5, c6⟩ := cells_cl HBXr.out
      have hnw : n ≤ wr.heap.size := by have := HBr.out.size; have := HS1.out; have := HN.out; omega
      have HNW := Lib.hid hnw
      have hi0 : (0 : Int) ≤ (k : Int) := Int.natCast_nonneg k
      have hi1 : (k : Int) < (xm : Int) := by omega
      have HI0 := Lib.hid hi0; have HI1 := Lib.hid hi1
      clear hz hvz hbn hnw
      go_upto_region 4 with fail
      obtain ⟨V1, hV1⟩ : ∃ V, wr.alloc (.cells #[.int .i64 zk, .int .i64 zn, .slice za zm zcap] 24) = V := ⟨_, rfl⟩
      obtain ⟨hx1, hbv1, hsv1⟩ := box_cl hV1
      rw [hV1]
      have hbw := (hbv1.block _ (Array.getElem?_eq_some_iff.1 HBXr.out).1).trans HBXr.out
      have HX6 := Lib.hid hx1; have HBV1 := Lib.hid hbv1; have HSV1 := Lib.hid hsv1; have HBW1 := Lib.hid hbw
      clear hx1 hbv1 hsv1 hV1 hbw c0 c1 c2 c3 c4 c5 c6 z0 z1 z2
      obtain ⟨c0, c1, c2, c3, c4, c5, c6⟩ := cells_cl HBW1.out
      go_upto_region 5 with fail
      obtain ⟨V2, hV2⟩ : ∃ V, V1.alloc (.cells #[.int .i64 yk, .int .i64 yn, .slice ya ym ycap] 24) = V := ⟨_, rfl⟩
      obtain ⟨hx2, hbv2, hsv2⟩ := box_cl hV2
      rw [hV2]
      have hbw := (hbv2.block _ (Array.getElem?_eq_some_iff.1 HBW1.out).1).trans HBW1.out
      have hx6 := (hbv2.block _ (Array.getElem?_eq_some_iff.1 HX6.out).1).trans HX6.out
      have HX7 := Lib.hid hx2; have HBV2 := Lib.hid (HBV1.out.tr hbv2 (Nat.le_refl _)); have HBW2 := Lib.hid hbw; have HX62 := Lib.hid hx6; have HSV2 := Lib.hid hsv2
      clear hx2 hbv2 hsv2 hV2 hbw hx6 c0 c1 c2 c3 c4 c5 c6
      obtain ⟨y0, y1, y2, f0, f1, f2⟩ : V2.cell? ⟨V1.heap.size, 0, none⟩ = some (.int .i64 yk) ∧ V2.cell? ⟨V1.heap.size, 1, none⟩ = some (.int .i64 yn) ∧ V2.cell? ⟨V1.heap.size, 2, none⟩ = some (.slice ya ym ycap) ∧ V2.frozen? ⟨V1.heap.size, 0, none⟩ = false ∧ V2.frozen? ⟨V1.heap.size, 1, none⟩ = false ∧ V2.frozen? ⟨V1.heap.size, 2, none⟩ = false :=
        ⟨cell_box HX7.out rfl rfl, cell_box HX7.out rfl rfl, cell_box HX7.out rfl rfl, IsC.frozen ⟨_, _, HX7.out⟩, IsC.frozen ⟨_, _, HX7.out⟩, IsC.frozen ⟨_, _, HX7.out⟩⟩
      by_cases h5 : yk = 5
      · have g5 : (yk != 5) = false := by simp [h5]
        go_upto_region 7 with fail
        have HBW3 := Lib.hid HBW2.out
        have HX63 := Lib.hid HX62.out
        have HX73 := Lib.hid HX7.out
        have HBV3 := Lib.hid HBV2.out
        have HCK3 := Lib.hid (show ClK n d x y R E k (.slice av (E.length + R.length) cv) V2 from ⟨own_same HCKr.out.own (fun z hz => HBV3.out.block _ (HCKr.out.own.lt z hz).2), fun e he => goodC_below (HBV3.out.mono HNW.out) (HCKr.out.each e he), HCKr.out.laid⟩)
        have HOW3 := Lib.hid HCK3.out.own
        have HZ3 := Lib.hid (HZ.out.below (HBV3.out.mono HNW.out) (fun _ h => h) (fun _ h => h) (G' := LT n))
        have HK20 := Lib.hid (show k ≤ 20000 by have := HM.out; omega)
        have HOT := Lib.hid (show TV (other y k) yk yn ym by unfold other; rw [if_pos (by rw [HVY.out.1]; exact h5)]; exact HVY.out)
        have HOTY := Lib.hid (show TyAt (LT n) V2 (other y k) ya ycap by unfold other; rw [if_pos (by rw [HVY.out.1]; exact h5)]; exact HY1.out.below (HBr.out.trans (HBV3.out.mono HNW.out)) (fun _ h => h) (fun _ h => h))
        have HOR := Lib.hid (other_right HRY.out k (fun h => absurd (by rw [HVY.out.1]; exact h5) h))
        clear h5 g5 y0 y1 y2 f0 f1 f2 hi0 hi1
        obtain ⟨c0, c1, c2, c3, c4, c5, c6⟩ := cells_cl HBW3.out
        have p0 := cell_box (i := 0) HX63.out rfl rfl; have p1 := cell_box (i := 1) HX63.out rfl rfl; have p2 := cell_box (i := 2) HX63.out rfl rfl; have q0 := cell_box (i := 0) HX73.out rfl rfl; have q1 := cell_box (i := 1) HX73.out rfl rfl; have q2 := cell_box (i := 2) HX73.out rfl rfl
        have hx := HOW3.out
        have hq : E.length + R.length ≤ 20000 := by have := HCKr.out.len; have := HSM.out; omega
        obtain ⟨k88, kml⟩ := b88 hq
        obtain ⟨q, hqq⟩ : ∃ q, E.length + R.length = q := ⟨_, rfl⟩
        rw [hqq] at hx k88 kml ⊢
        have hfar := HFARr.out
        rw [hqq] at hfar
        have HX := Lib.hid hx; have HQ := Lib.hid hqq; have B1 := Lib.hid k88; have B2 := Lib.hid kml; have HFAR := Lib.hid hfar
        obtain ⟨i0, hi, hz0, hz1, hz2⟩ := info_parts info_cl
        have hw3 : w.heap.size < V2.heap.size := (Array.getElem?_eq_some_iff.1 HBW3.out).1
        have HW3 := Lib.hid hw3
        have HNV := Lib.hid (show n ≤ V2.heap.size by have := HBV3.out.size; have := HNW.out; omega)
        clear hx hq k88 kml hqq hfar hw3
        by_cases h9 : xk = 9
        · have g9 : (xk == 9) = true := by simp [h9]
          have HX9 := Lib.hid h9
          by_cases hk0 : k = 0
          · have gk : ((k : Int) == 0) = true := by simp [hk0]
            have HK0 := Lib.hid hk0
            clear h9 hk0
            go_upto_region 8 with fail
            go_region_law (first
              | (go_simp; go_at_call 45; refine (turned_any d _).mono ?_; rintro e w' ⟨rfl, rfl⟩; dsimp only)
              | (refine step_append_lies _ ?_ (.tmp 35) (.tmp 42) 50 ?_ n 49 i0 (.agg #[.int .i64 0, .int .i64 0, .int .i64 0, .slice none 0 0, .int .i64 0, .int .i64 0, .slice none 0 0]) 7 88 Try.underlying50 hi hz0 hz1 hz2 ?_ ?_ (.slice av q cv) q (stcCells (E ++ R).reverse) ?_ ?_ ⟨V2.heap.size, 0, none⟩ 1 1 [.int .i64 (mdv d.flip), .int .i64 yk, .int .i64 yn, .slice ya ym ycap, .int .i64 zk, .int .i64 zn, .slice za zm zcap] ?_ ?_ ?_ ?_ ?_ ?_ ?_ ?_ (V2.heap.size + 1) ?_ ?_; (· rfl); (· rfl); (· rfl); (· decide); (· rfl); (· exact HX.out.alloc _); (· rfl); (· rfl); (· exact World.news_of_block (World.alloc_heap_new V2 _)); (· exact seven_cells _ _ _ _ _ _ _ _ _ _ _); (· decide); (· exact B2.out); (· exact B1.out); (· exact Nat.le_trans HNV.out (by simp)); (· simp); intro g1 cap1 w7 own1 gr1 ly1 _))
            all_goals
              have gr1' := undrew gr1
              have hbe := below_push (n := n) (Below.refl n V2) gr1' (fun z hz => (HX.out.lt z hz).1) HNV.out
              have e7 := (gr1'.block w.heap.size (by have := HW3.out; rw [World.size_alloc]; omega) (fun e => HFAR.out e.symm)).trans ((Below.heap_alloc _ _ _ HW3.out).trans HBW3.out)
              have hfar' : (Value.slice (some ⟨g1, 0, none⟩) (q + 1) cap1).ownBlock ≠ some w.heap.size := by
                intro e; injection e with e
                rcases ly1 with h | h
                · exact HFAR.out (by rw [h]; exact congrArg some e)
                · have := HW3.out; dsimp only at e; omega
              have hnx := clK_push (g2 := g1) (cap2 := cap1) (w2 := w7) HCK3.out (e := ⟨d.flip, other y k, ya, ycap, x.kids[k], za, zcap⟩) (by unfold EnC.key kidC; dsimp only; rw [if_pos ⟨by rw [HVX.out.1]; exact HX9.out, HK0.out⟩, kid_get hkx]) ⟨HOTY.out, HZ3.out, HOR.out, rights_at (kids_right HRX.out) k hkx⟩ hbe (by rw [HQ.out]; simp only [encCells, HVZ.out.1, HVZ.out.2.1, HVZ.out.2.2, HOT.out.1, HOT.out.2.1, HOT.out.2.2]; exact own1)
              rw [HQ.out] at hnx
              have HNXT := Lib.hid hnx; have E7 := Lib.hid e7; have FARX := Lib.hid hfar'; have HBE := Lib.hid (HBr.out.trans ((HBV3.out.mono HNW.out).trans hbe))
              clear gr1 gr1' ly1 own1 hbe e7 hnx hfar' hi hz0 hz1 hz2 c0 c1 c2 c3 c4 c5 c6 p0 p1 p2 q0 q1 q2
              go_wp2_with fail
              go_roundg (xm - (k + 1))
              case measure => omega
              case rel => exact ⟨_, k + 1, by omega, by exact wrap_kC HK20.out, HNXT.out, E7.out, FARX.out, HBE.out, rfl⟩
          · have gk : ((k : Int) == 0) = false := by simp; omega
            have HK0 := Lib.hid hk0
            clear h9 hk0
            go_wp2_with (at_builtin; refine wpList_append_lies _ rfl (.tmp 44) (.tmp 50) 50 rfl n 49 i0 (.agg #[.int .i64 0, .int .i64 0, .int .i64 0, .slice none 0 0, .int .i64 0, .int .i64 0, .slice none 0 0]) 7 88 Try.underlying50 hi hz0 hz1 hz2 rfl (by decide) (.slice av q cv) q (stcCells (E ++ R).reverse) rfl (HX.out.alloc _) ⟨V2.heap.size, 0, none⟩ 1 1 [.int .i64 (mdv d), .int .i64 zk, .int .i64 zn, .slice za zm zcap, .int .i64 yk, .int .i64 yn, .slice ya ym ycap] rfl rfl (World.news_of_block (World.alloc_heap_new V2 _)) (seven_cells _ _ _ _ _ _ _ _ _ _ _) (by decide) B2.out B1.out (by have := HNV.out; simp; omega) (V2.heap.size + 1) (by simp) ?_; intro g1 cap1 w7 own1 gr1' ly1 _; have gr1 := trivial)
            have hbe := below_push (n := n) (Below.refl n V2) gr1' (fun z hz => (HX.out.lt z hz).1) HNV.out
            have e7 := (gr1'.block w.heap.size (by have := HW3.out; rw [World.size_alloc]; omega) (fun e => HFAR.out e.symm)).trans ((Below.heap_alloc _ _ _ HW3.out).trans HBW3.out)
            have hfar' : (Value.slice (some ⟨g1, 0, none⟩) (q + 1) cap1).ownBlock ≠ some w.heap.size := by
              intro e; injection e with e
              rcases ly1 with h | h
              · exact HFAR.out (by rw [h]; exact congrArg some e)
              · have := HW3.out; dsimp only at e; omega
            have hnx := clK_push (g2 := g1) (cap2 := cap1) (w2 := w7) HCK3.out (e := ⟨d, x.kids[k], za, zcap, other y k, ya, ycap⟩) (by unfold EnC.key kidC; dsimp only; rw [if_neg (fun h => HK0.out h.2), kid_get hkx]) ⟨HZ3.out, HOTY.out, rights_at (kids_right HRX.out) k hkx, HOR.out⟩ hbe (by rw [HQ.out]; simp only [encCells, HVZ.out.1, HVZ.out.2.1, HVZ.out.2.2, HOT.out.1, HOT.out.2.1, HOT.out.2.2]; exact own1)
            rw [HQ.out] at hnx
            have HNXT := Lib.hid hnx; have E7 := Lib.hid e7; have FARX := Lib.hid hfar'; have HBE := Lib.hid (HBr.out.trans ((HBV3.out.mono HNW.out).trans hbe))
            clear gr1 gr1' ly1 own1 hbe e7 hnx hfar' hi hz0 hz1 hz2 c0 c1 c2 c3 c4 c5 c6 p0 p1 p2 q0 q1 q2
            go_wp2_with fail
            go_roundg (xm - (k + 1))
            case measure => omega
            case rel => exact ⟨_, k + 1, by omega, by exact wrap_kC HK20.out, HNXT.out, E7.out, FARX.out, HBE.out, rfl⟩
        · have g9 : (xk == 9) = false := by simp [h9]
          have HX9 := Lib.hid h9
          clear h9
          go_wp2_with (at_builtin; refine wpList_append_lies _ rfl (.tmp 44) (.tmp 50) 50 rfl n 49 i0 (.agg #[.int .i64 0, .int .i64 0, .int .i64 0, .slice none 0 0, .int .i64 0, .int .i64 0, .slice none 0 0]) 7 88 Try.underlying50 hi hz0 hz1 hz2 rfl (by decide) (.slice av q cv) q (stcCells (E ++ R).reverse) rfl (HX.out.alloc _) ⟨V2.heap.size, 0, none⟩ 1 1 [.int .i64 (mdv d), .int .i64 zk, .int .i64 zn, .slice za zm zcap, .int .i64 yk, .int .i64 yn, .slice ya ym ycap] rfl rfl (World.news_of_block (World.alloc_heap_new V2 _)) (seven_cells _ _ _ _ _ _ _ _ _ _ _) (by decide) B2.out B1.out (by have := HNV.out; simp; omega) (V2.heap.size + 1) (by simp) ?_; intro g1 cap1 w7 own1 gr1' ly1 _; have gr1 := trivial)
          have hbe := below_push (n := n) (Below.refl n V2) gr1' (fun z hz => (HX.out.lt z hz).1) HNV.out
          have e7 := (gr1'.block w.heap.size (by have := HW3.out; rw [World.size_alloc]; omega) (fun e => HFAR.out e.symm)).trans ((Below.heap_alloc _ _ _ HW3.out).trans HBW3.out)
          have hfar' : (Value.slice (some ⟨g1, 0, none⟩) (q + 1) cap1).ownBlock ≠ some w.heap.size := by
            intro e; injection e with e
            rcases ly1 with h | h
            · exact HFAR.out (by rw [h]; exact congrArg some e)
            · have := HW3.out; dsimp only at e; omega
          have hnx := clK_push (g2 := g1) (cap2 := cap1) (w2 := w7) HCK3.out (e := ⟨d, x.kids[k], za, zcap, other y k, ya, ycap⟩) (by unfold EnC.key kidC; dsimp only; rw [if_neg (fun h => HX9.out (by rw [← HVX.out.1]; exact h.1)), kid_get hkx]) ⟨HZ3.out, HOTY.out, rights_at (kids_right HRX.out) k hkx, HOR.out⟩ hbe (by rw [HQ.out]; simp only [encCells, HVZ.out.1, HVZ.out.2.1, HVZ.out.2.2, HOT.out.1, HOT.out.2.1, HOT.out.2.2]; exact own1)
          rw [HQ.out] at hnx
          have HNXT := Lib.hid hnx; have E7 := Lib.hid e7; have FARX := Lib.hid hfar'; have HBE := Lib.hid (HBr.out.trans ((HBV3.out.mono HNW.out).trans hbe))
          clear gr1 gr1' ly1 own1 hbe e7 hnx hfar' hi hz0 hz1 hz2 c0 c1 c2 c3 c4 c5 c6 p0 p1 p2 q0 q1 q2
          go_wp2_with fail
          go_roundg (xm - (k + 1))
          case measure => omega
          case rel => exact ⟨_, k + 1, by omega, by exact wrap_kC HK20.out, HNXT.out, E7.out, FARX.out, HBE.out, rfl⟩
      · have g5 : (yk != 5) = true := by simp [h5]
        have hky : k < y.kids.length := by rw [fits_len HRX.out HRY.out HF.out (by rw [HVY.out.1]; exact h5)]; exact hkx
        obtain ⟨b', o', ta, tcap, rfl, hbn', ht, t0, t1, t2⟩ := kid_in HY1.out HBr.out hky
        obtain ⟨tk, tn, tm, hvt⟩ := TV.mk y.kids[k]
        rw [hvt.1] at t0; rw [hvt.2.1] at t1; rw [hvt.2.2] at t2
        have hb' : b' < wr.heap.size := Nat.lt_of_lt_of_le hbn' HNW.out
        have e0 := World.cell?_of_block (a := ⟨b', o' + k * 3, none⟩) (HBV2.out.block b' hb')
        have e1 := World.cell?_of_block (a := ⟨b', o' + k * 3 + 1, none⟩) (HBV2.out.block b' hb')
        have e2 := World.cell?_of_block (a := ⟨b', o' + k * 3 + 2, none⟩) (HBV2.out.block b' hb')
        rw [t0] at e0; rw [t1] at e1; rw [t2] at e2
        have HT := Lib.hid ht; have HVT := Lib.hid hvt
        clear t0 t1 t2 ht hvt hbn'
        have hi2 : (k : Int) < (ym : Int) := by rw [← HVY.out.2.2]; omega
        go_upto_region 7 with fail
        obtain ⟨V3, hV3⟩ : ∃ V, ((V2.setCell ⟨V1.heap.size, 0, none⟩ (.int .i64 tk)).setCell ⟨V1.heap.size, 1, none⟩ (.int .i64 tn)).setCell ⟨V1.heap.size, 2, none⟩ (.slice ta tm tcap) = V := ⟨_, rfl⟩
        rw [hV3]
        have h71 : V3.heap[V1.heap.size]? = some (.cells #[.int .i64 tk, .int .i64 tn, .slice ta tm tcap] 24) := by rw [← hV3]; exact box_set3 HX7.out
        have h61 : V3.heap[wr.heap.size]? = some (.cells #[.int .i64 zk, .int .i64 zn, .slice za zm zcap] 24) := by rw [← hV3]; exact (set3_other (by have := HSV1.out; omega)).trans HX62.out
        have hbw1 : V3.heap[w.heap.size]? = some (.cells #[.int .i64 (mdv d), .int .i64 xk, .int .i64 xn, .slice (some ⟨b, o, none⟩) xm xcap, .int .i64 yk, .int .i64 yn, .slice (some ⟨b', o', none⟩) ym ycap] 49) := by rw [← hV3]; exact (set3_other (by have := HSV1.out; have := (Array.getElem?_eq_some_iff.1 HBXr.out).1; omega)).trans HBW2.out
        have hbv3 : Below wr.heap.size wr V3 := by rw [← hV3]; exact put3 HBV2.out (by have := HSV1.out; omega)
        have HBW3 := Lib.hid hbw1
        have HX63 := Lib.hid h61
        have HX73 := Lib.hid h71
        have HBV3 := Lib.hid hbv3
        have HCK3 := Lib.hid (show ClK n d x y R E k (.slice av (E.length + R.length) cv) V3 from ⟨own_same HCKr.out.own (fun z hz => HBV3.out.block _ (HCKr.out.own.lt z hz).2), fun e he => goodC_below (HBV3.out.mono HNW.out) (HCKr.out.each e he), HCKr.out.laid⟩)
        have HOW3 := Lib.hid HCK3.out.own
        have HZ3 := Lib.hid (HZ.out.below (HBV3.out.mono HNW.out) (fun _ h => h) (fun _ h => h) (G' := LT n))
        have HK20 := Lib.hid (show k ≤ 20000 by have := HM.out; omega)
        have HOT := Lib.hid (show TV (other y k) tk tn tm by unfold other; rw [if_neg (by rw [HVY.out.1]; exact h5), kid_get hky]; exact HVT.out)
        have HOTY := Lib.hid (show TyAt (LT n) V3 (other y k) ta tcap by unfold other; rw [if_neg (by rw [HVY.out.1]; exact h5), kid_get hky]; exact HT.out.below (HBV3.out.mono HNW.out) (fun _ h => h) (fun _ h => h))
        have HOR := Lib.hid (other_right HRY.out k (fun _ => hky))
        clear h5 g5 y0 y1 y2 f0 f1 f2 hi0 hi1 hi2 e0 e1 e2 h71 h61 hbw1 hbv3 hV3 hb'
        obtain ⟨c0, c1, c2, c3, c4, c5, c6⟩ := cells_cl HBW3.out
        have p0 := cell_box (i := 0) HX63.out rfl rfl; have p1 := cell_box (i := 1) HX63.out rfl rfl; have p2 := cell_box (i := 2) HX63.out rfl rfl; have q0 := cell_box (i := 0) HX73.out rfl rfl; have q1 := cell_box (i := 1) HX73.out rfl rfl; have q2 := cell_box (i := 2) HX73.out rfl rfl
        have hx := HOW3.out
        have hq : E.length + R.length ≤ 20000 := by have := HCKr.out.len; have := HSM.out; omega
        obtain ⟨k88, kml⟩ := b88 hq
        obtain ⟨q, hqq⟩ : ∃ q, E.length + R.length = q := ⟨_, rfl⟩
        rw [hqq] at hx k88 kml ⊢
        have hfar := HFARr.out
        rw [hqq] at hfar
        have HX := Lib.hid hx; have HQ := Lib.hid hqq; have B1 := Lib.hid k88; have B2 := Lib.hid kml; have HFAR := Lib.hid hfar
        obtain ⟨i0, hi, hz0, hz1, hz2⟩ := info_parts info_cl
        have hw3 : w.heap.size < V3.heap.size := (Array.getElem?_eq_some_iff.1 HBW3.out).1
        have HW3 := Lib.hid hw3
        have HNV := Lib.hid (show n ≤ V3.heap.size by have := HBV3.out.size; have := HNW.out; omega)
        clear hx hq k88 kml hqq hfar hw3
        by_cases h9 : xk = 9
        · have g9 : (xk == 9) = true := by simp [h9]
          have HX9 := Lib.hid h9
          by_cases hk0 : k = 0
          · have gk : ((k : Int) == 0) = true := by simp [hk0]
            have HK0 := Lib.hid hk0
            clear h9 hk0
            go_upto_region 8 with fail
            go_region_law (first
              | (go_simp; go_at_call 45; refine (turned_any d _).mono ?_; rintro e w' ⟨rfl, rfl⟩; dsimp only)
              | (refine step_append_lies _ ?_ (.tmp 35) (.tmp 42) 50 ?_ n 49 i0 (.agg #[.int .i64 0, .int .i64 0, .int .i64 0, .slice none 0 0, .int .i64 0, .int .i64 0, .slice none 0 0]) 7 88 Try.underlying50 hi hz0 hz1 hz2 ?_ ?_ (.slice av q cv) q (stcCells (E ++ R).reverse) ?_ ?_ ⟨V3.heap.size, 0, none⟩ 1 1 [.int .i64 (mdv d.flip), .int .i64 tk, .int .i64 tn, .slice ta tm tcap, .int .i64 zk, .int .i64 zn, .slice za zm zcap] ?_ ?_ ?_ ?_ ?_ ?_ ?_ ?_ (V3.heap.size + 1) ?_ ?_; (· rfl); (· rfl); (· rfl); (· decide); (· rfl); (· exact HX.out.alloc _); (· rfl); (· rfl); (· exact World.news_of_block (World.alloc_heap_new V3 _)); (· exact seven_cells _ _ _ _ _ _ _ _ _ _ _); (· decide); (· exact B2.out); (· exact B1.out); (· exact Nat.le_trans HNV.out (by simp)); (· simp); intro g1 cap1 w7 own1 gr1 ly1 _))
            all_goals
              have gr1' := undrew gr1
              have hbe := below_push (n := n) (Below.refl n V3) gr1' (fun z hz => (HX.out.lt z hz).1) HNV.out
              have e7 := (gr1'.block w.heap.size (by have := HW3.out; rw [World.size_alloc]; omega) (fun e => HFAR.out e.symm)).trans ((Below.heap_alloc _ _ _ HW3.out).trans HBW3.out)
              have hfar' : (Value.slice (some ⟨g1, 0, none⟩) (q + 1) cap1).ownBlock ≠ some w.heap.size := by
                intro e; injection e with e
                rcases ly1 with h | h
                · exact HFAR.out (by rw [h]; exact congrArg some e)
                · have := HW3.out; dsimp only at e; omega
              have hnx := clK_push (g2 := g1) (cap2 := cap1) (w2 := w7) HCK3.out (e := ⟨d.flip, other y k, ta, tcap, x.kids[k], za, zcap⟩) (by unfold EnC.key kidC; dsimp only; rw [if_pos ⟨by rw [HVX.out.1]; exact HX9.out, HK0.out⟩, kid_get hkx]) ⟨HOTY.out, HZ3.out, HOR.out, rights_at (kids_right HRX.out) k hkx⟩ hbe (by rw [HQ.out]; simp only [encCells, HVZ.out.1, HVZ.out.2.1, HVZ.out.2.2, HOT.out.1, HOT.out.2.1, HOT.out.2.2]; exact own1)
              rw [HQ.out] at hnx
              have HNXT := Lib.hid hnx; have E7 := Lib.hid e7; have FARX := Lib.hid hfar'; have HBE := Lib.hid (HBr.out.trans ((HBV3.out.mono HNW.out).trans hbe))
              clear gr1 gr1' ly1 own1 hbe e7 hnx hfar' hi hz0 hz1 hz2 c0 c1 c2 c3 c4 c5 c6 p0 p1 p2 q0 q1 q2
              go_wp2_with fail
              go_roundg (xm - (k + 1))
              case measure => omega
              case rel => exact ⟨_, k + 1, by omega, by exact wrap_kC HK20.out, HNXT.out, E7.out, FARX.out, HBE.out, rfl⟩
          · have gk : ((k : Int) == 0) = false := by simp; omega
            have HK0 := Lib.hid hk0
            clear h9 hk0
            go_wp2_with (at_builtin; refine wpList_append_lies _ rfl (.tmp 44) (.tmp 50) 50 rfl n 49 i0 (.agg #[.int .i64 0, .int .i64 0, .int .i64 0, .slice none 0 0, .int .i64 0, .int .i64 0, .slice none 0 0]) 7 88 Try.underlying50 hi hz0 hz1 hz2 rfl (by decide) (.slice av q cv) q (stcCells (E ++ R).reverse) rfl (HX.out.alloc _) ⟨V3.heap.size, 0, none⟩ 1 1 [.int .i64 (mdv d), .int .i64 zk, .int .i64 zn, .slice za zm zcap, .int .i64 tk, .int .i64 tn, .slice ta tm tcap] rfl rfl (World.news_of_block (World.alloc_heap_new V3 _)) (seven_cells _ _ _ _ _ _ _ _ _ _ _) (by decide) B2.out B1.out (by have := HNV.out; simp; omega) (V3.heap.size + 1) (by simp) ?_; intro g1 cap1 w7 own1 gr1' ly1 _; have gr1 := trivial)
            have hbe := below_push (n := n) (Below.refl n V3) gr1' (fun z hz => (HX.out.lt z hz).1) HNV.out
            have e7 := (gr1'.block w.heap.size (by have := HW3.out; rw [World.size_alloc]; omega) (fun e => HFAR.out e.symm)).trans ((Below.heap_alloc _ _ _ HW3.out).trans HBW3.out)
            have hfar' : (Value.slice (some ⟨g1, 0, none⟩) (q + 1) cap1).ownBlock ≠ some w.heap.size := by
              intro e; injection e with e
              rcases ly1 with h | h
              · exact HFAR.out (by rw [h]; exact congrArg some e)
              · have := HW3.out; dsimp only at e; omega
            have hnx := clK_push (g2 := g1) (cap2 := cap1) (w2 := w7) HCK3.out (e := ⟨d, x.kids[k], za, zcap, other y k, ta, tcap⟩) (by unfold EnC.key kidC; dsimp only; rw [if_neg (fun h => HK0.out h.2), kid_get hkx]) ⟨HZ3.out, HOTY.out, rights_at (kids_right HRX.out) k hkx, HOR.out⟩ hbe (by rw [HQ.out]; simp only [encCells, HVZ.out.1, HVZ.out.2.1, HVZ.out.2.2, HOT.out.1, HOT.out.2.1, HOT.out.2.2]; exact own1)
            rw [HQ.out] at hnx
            have HNXT := Lib.hid hnx; have E7 := Lib.hid e7; have FARX := Lib.hid hfar'; have HBE := Lib.hid (HBr.out.trans ((HBV3.out.mono HNW.out).trans hbe))
            clear gr1 gr1' ly1 own1 hbe e7 hnx hfar' hi hz0 hz1 hz2 c0 c1 c2 c3 c4 c5 c6 p0 p1 p2 q0 q1 q2
            go_wp2_with fail
            go_roundg (xm - (k + 1))
            case measure => omega
            case rel => exact ⟨_, k + 1, by omega, by exact wrap_kC HK20.out, HNXT.out, E7.out, FARX.out, HBE.out, rfl⟩
        · have g9 : (xk == 9) = false := by simp [h9]
          have HX9 := Lib.hid h9
          clear h9
          go_wp2_with (at_builtin; refine wpList_append_lies _ rfl (.tmp 44) (.tmp 50) 50 rfl n 49 i0 (.agg #[.int .i64 0, .int .i64 0, .int .i64 0, .slice none 0 0, .int .i64 0, .int .i64 0, .slice none 0 0]) 7 88 Try.underlying50 hi hz0 hz1 hz2 rfl (by decide) (.slice av q cv) q (stcCells (E ++ R).reverse) rfl (HX.out.alloc _) ⟨V3.heap.size, 0, none⟩ 1 1 [.int .i64 (mdv d), .int .i64 zk, .int .i64 zn, .slice za zm zcap, .int .i64 tk, .int .i64 tn, .slice ta tm tcap] rfl rfl (World.news_of_block (World.alloc_heap_new V3 _)) (seven_cells _ _ _ _ _ _ _ _ _ _ _) (by decide) B2.out B1.out (by have := HNV.out; simp; omega) (V3.heap.size + 1) (by simp) ?_; intro g1 cap1 w7 own1 gr1' ly1 _; have gr1 := trivial)
          have hbe := below_push (n := n) (Below.refl n V3) gr1' (fun z hz => (HX.out.lt z hz).1) HNV.out
          have e7 := (gr1'.block w.heap.size (by have := HW3.out; rw [World.size_alloc]; omega) (fun e => HFAR.out e.symm)).trans ((Below.heap_alloc _ _ _ HW3.out).trans HBW3.out)
          have hfar' : (Value.slice (some ⟨g1, 0, none⟩) (q + 1) cap1).ownBlock ≠ some w.heap.size := by
            intro e; injection e with e
            rcases ly1 with h | h
            · exact HFAR.out (by rw [h]; exact congrArg some e)
            · have := HW3.out; dsimp only at e; omega
          have hnx := clK_push (g2 := g1) (cap2 := cap1) (w2 := w7) HCK3.out (e := ⟨d, x.kids[k], za, zcap, other y k, ta, tcap⟩) (by unfold EnC.key kidC; dsimp only; rw [if_neg (fun h => HX9.out (by rw [← HVX.out.1]; exact h.1)), kid_get hkx]) ⟨HZ3.out, HOTY.out, rights_at (kids_right HRX.out) k hkx, HOR.out⟩ hbe (by rw [HQ.out]; simp only [encCells, HVZ.out.1, HVZ.out.2.1, HVZ.out.2.2, HOT.out.1, HOT.out.2.1, HOT.out.2.2]; exact own1)
          rw [HQ.out] at hnx
          have HNXT := Lib.hid hnx; have E7 := Lib.hid e7; have FARX := Lib.hid hfar'; have HBE := Lib.hid (HBr.out.trans ((HBV3.out.mono HNW.out).trans hbe))
          clear gr1 gr1' ly1 own1 hbe e7 hnx hfar' hi hz0 hz1 hz2 c0 c1 c2 c3 c4 c5 c6 p0 p1 p2 q0 q1 q2
          go_wp2_with fail
          go_roundg (xm - (k + 1))
          case measure => omega
          case rel => exact ⟨_, k + 1, by omega, by exact wrap_kC HK20.out, HNXT.out, E7.out, FARX.out, HBE.out, rfl⟩
    · obtain rfl : k = xm := by omega
      go_wp2_with fail
      go_ret
      exact ⟨_, E, rfl, HB0.out.trans HBr.out, HCKr.out⟩
end Go.Proofs.Ytafekidkikfpcaa

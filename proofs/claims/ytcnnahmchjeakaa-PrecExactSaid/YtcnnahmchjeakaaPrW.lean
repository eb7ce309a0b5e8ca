/- The sample of stage 9's laws, walked. -/
import Derived.Test.YtcnnahmchjeakaaPbG
import Derived.Test.YtcnnahmchjeakaaSeqA
namespace Go.Proofs.Ytcnnahmchjeakaa
open Go Go.RowKit
open Tp (T)

theorem wake9_ok : Tp.bl (funT 1 1) (funT 5 1) = true ∧ Tp.bl (funT 5 1) (funT 1 1) = false ∧ Tp.hasG (funT 1 1) = true ∧ Tp.grd (funT 1 1) = funT 5 5 ∧ Tp.hasG (.mk 5 0 []) = false := by
  have h : Tp.hasG (funT 1 1) = true := by simp [funT, Tp.hasG, Tp.right, Tp.rights, Tp.nodeRight, Tp.arity, Tp.T.kind]
  refine ⟨?_, ?_, h, ?_, ?_⟩
  · simp [funT, Tp.bl, Tp.right, Tp.rights, Tp.nodeRight, Tp.arity, Tp.below, Tp.belows]
  · simp [funT, Tp.bl, Tp.right, Tp.rights, Tp.nodeRight, Tp.arity, Tp.below, Tp.belows]
  · unfold Tp.grd; rw [if_pos h]; rfl
  · simp [Tp.hasG, Tp.T.kind]
/-- Two leaves and a function, in a box. -/
theorem box_new {w3 W4 : World} {t : T} {k n : Int} {m : Nat} {a : Option Addr} {c : Nat} (hv : TV t k n m) (ht : TyAt (LT w3.heap.size) w3 t a c) (hW : w3.alloc (.cells #[.int .i64 k, .int .i64 n, .slice a m c] 24) = W4) : BoxT W4 w3.heap.size t k n m a c ∧ Below w3.heap.size w3 W4 := by
  have hb : Below w3.heap.size w3 W4 := by rw [← hW]; exact (Below.refl _ _).alloc (Nat.le_refl _) _
  exact ⟨⟨hv, by rw [← hW]; exact World.alloc_heap_new w3 _, ty_later ht hb⟩, hb⟩

set_option maxRecDepth 100000 in
set_option maxHeartbeats 2000000 in
theorem wakes9_any (w : World) : Calls Try.prog 17 #[] w fun e w' => e = .returned (.bool true) ∧ Below w.heap.size w w' := by
  obtain ⟨hb1, hb2, hg1, hg2, hg3⟩ := wake9_ok
  have h1 : I64 1 := i64_nat (by decide) (by decide)
  have h5 : I64 5 := i64_nat (by decide) (by decide)
  have h9 : I64 9 := i64_nat (by decide) (by decide)
  have L1 := Lib.hid (fun w1 => leaf_any 1 w1); have L5 := Lib.hid (fun w1 => leaf_any 5 w1)
  have T11 := Lib.hid (fun (w1 : World) => two_any 9 h9 (.mk 1 0 []) 1 0 0 none 0 (.mk 1 0 []) 1 0 0 none 0 w1 ⟨rfl, rfl, rfl⟩ ⟨rfl, rfl, rfl⟩ (leaf_at h1) (leaf_at h1))
  have T51 := Lib.hid (fun (w1 : World) => two_any 9 h9 (.mk 5 0 []) 5 0 0 none 0 (.mk 1 0 []) 1 0 0 none 0 w1 ⟨rfl, rfl, rfl⟩ ⟨rfl, rfl, rfl⟩ (leaf_at h5) (leaf_at h1))
  have T55 := Lib.hid (fun (w1 : World) => two_any 9 h9 (.mk 5 0 []) 5 0 0 none 0 (.mk 5 0 []) 5 0 0 none 0 w1 ⟨rfl, rfl, rfl⟩ ⟨rfl, rfl, rfl⟩ (leaf_at h5) (leaf_at h5))
  have G5 := Lib.hid (fun (w1 : World) => grd_any (w := w1) (t := .mk 5 0 []) (k := 5) (n := 0) (m := 0) (a := none) (c := 0) ⟨rfl, rfl, rfl⟩ (leaf_at h5) (by simp [Tp.size, Tp.sizes]))
  have HG1 := Lib.hid hg1; have HG2 := Lib.hid hg2; have HG3 := Lib.hid hg3; have HB1 := Lib.hid hb1; have HB2 := Lib.hid hb2
  have HSM := Lib.hid (Tp.same_refl (funT 5 5))
  clear hb1 hb2 hg1 hg2 hg3 h1 h5 h9
  go_enter Try.func17, Try.ntmps17
  go_wp2_with fail
  refine (L1.out w).mono ?_
  rintro e w1 ⟨rfl, hb⟩
  have HX1 := Lib.hid hb; clear hb
  go_wp2_with fail
  refine (L1.out w1).mono ?_
  rintro e w2 ⟨rfl, hb⟩
  have HX2 := Lib.hid (HX1.out.tr hb (Nat.le_refl _)); clear hb
  go_wp2_with fail
  refine (T11.out w2).mono ?_
  rintro e w3 ⟨g1, rfl, ht, hb⟩
  dsimp only [Tp.T.kind, Tp.T.num]
  obtain ⟨W3, hW3⟩ : ∃ W, w3.alloc (.cells #[.int .i64 9, .int .i64 0, .slice (some ⟨g1, 0, none⟩) 2 2] 24) = W := ⟨_, rfl⟩
  obtain ⟨bx, hb3⟩ := box_new (fun_tv 1 1) ht hW3
  have HX3 := Lib.hid ((HX2.out.tr hb (Nat.le_refl _)).tr hb3 (Nat.le_refl _)); have BX := Lib.hid bx; have HW3 := Lib.hid hW3
  clear hb ht bx hb3 hW3
  go_upto_region 2 with fail
  rw [HW3.out]
  go_wp2_with fail
  refine (L5.out W3).mono ?_
  rintro e w4 ⟨rfl, hb⟩
  have HD4 := Lib.hid hb; clear hb
  go_wp2_with fail
  refine (L1.out w4).mono ?_
  rintro e w5 ⟨rfl, hb⟩
  have HD5 := Lib.hid (HD4.out.tr hb (Nat.le_refl _)); clear hb
  go_wp2_with fail
  refine (T51.out w5).mono ?_
  rintro e w6 ⟨g2, rfl, ht, hb⟩
  dsimp only [Tp.T.kind, Tp.T.num]
  obtain ⟨W6, hW6⟩ : ∃ W, w6.alloc (.cells #[.int .i64 9, .int .i64 0, .slice (some ⟨g2, 0, none⟩) 2 2] 24) = W := ⟨_, rfl⟩
  obtain ⟨bu, hb6⟩ := box_new (fun_tv 5 1) ht hW6
  have hd6 := (HD5.out.tr hb (Nat.le_refl _)).tr hb6 (Nat.le_refl _)
  have BX6 := Lib.hid (BX.out.later hd6); have HX6 := Lib.hid (HX3.out.tr hd6 (Nat.le_refl _)); have BU6 := Lib.hid bu; have HW6 := Lib.hid hW6
  clear hb ht bu hb6 hW6 hd6
  go_upto_region 3 with fail
  rw [HW6.out]
  obtain ⟨c0, c1, c2⟩ := BX6.out.cells
  go_wp2_with fail
  refine (grd_any BX6.out.says BX6.out.ty (fun_size 1 1)).mono ?_
  clear c0 c1 c2
  rintro e w7 ⟨k, n, m, a, c, hv, rfl, ht, hb⟩
  rw [HG2.out] at hv ht
  rw [HG1.out]
  obtain rfl : (9 : Int) = k := hv.1
  obtain rfl : (0 : Int) = n := hv.2.1
  obtain rfl : 2 = m := hv.2.2
  obtain ⟨W7, hW7⟩ : ∃ W, w7.alloc (.cells #[.int .i64 9, .int .i64 0, .slice a 2 c] 24) = W := ⟨_, rfl⟩
  obtain ⟨bg, hb7⟩ := box_new (fun_tv 5 5) ht hW7
  have hd7 := hb.tr hb7 (Nat.le_refl _)
  have BX7 := Lib.hid (BX6.out.later hd7); have BU7 := Lib.hid (BU6.out.later hd7); have HX7 := Lib.hid (HX6.out.tr hd7 (Nat.le_refl _)); have BG7 := Lib.hid bg; have HW7 := Lib.hid hW7
  clear hb ht hv bg hb7 hW7 hd7
  go_upto_region 4 with fail
  rw [HW7.out]
  go_wp2_with fail
  refine (L5.out W7).mono ?_
  rintro e w8 ⟨rfl, hb⟩
  have HD8 := Lib.hid hb; clear hb
  go_wp2_with fail
  refine (G5.out w8).mono ?_
  rintro e w9 ⟨k, n, m, a', c', hv, rfl, ht, hb⟩
  rw [HG3.out]
  obtain ⟨W9, hW9⟩ : ∃ W, w9.alloc (.cells #[.int .i64 k, .int .i64 n, .slice a' m c'] 24) = W := ⟨_, rfl⟩
  have hb9 : Below w9.heap.size w9 W9 := by rw [← hW9]; exact (Below.refl _ _).alloc (Nat.le_refl _) _
  have hd9 := (HD8.out.tr hb (Nat.le_refl _)).tr hb9 (Nat.le_refl _)
  have bx9 := BX7.out.later hd9; have bu9 := BU7.out.later hd9; have bg9 := BG7.out.later hd9
  have HX9 := Lib.hid (HX7.out.tr hd9 (Nat.le_refl _)); have HW9 := Lib.hid hW9
  have HBT := Lib.hid (fun x (h : Below W9.heap.size W9 x) => bl_any (w := x) (bx9.later h).says (bu9.later h).says (bx9.later h).ty (bu9.later h).ty (fun_size 1 1) (fun_size 5 1))
  have HBU := Lib.hid (fun x (h : Below W9.heap.size W9 x) => bl_any (w := x) (bu9.later h).says (bx9.later h).says (bu9.later h).ty (bx9.later h).ty (fun_size 5 1) (fun_size 1 1))
  have HSG := Lib.hid (fun x (h : Below W9.heap.size W9 x) g (ht : TyAt (LT x.heap.size) x (funT 5 5) (some ⟨g, 0, none⟩) 2) => ks_any (w := x) (bg9.later h).says (fun_tv 5 5) (bg9.later h).ty ht)
  rw [HB1.out] at HBT; rw [HB2.out] at HBU; rw [HSM.out] at HSG
  have HCELL := Lib.hid (fun x (h : Below W9.heap.size W9 x) => (⟨(bx9.later h).cells, (bu9.later h).cells, (bg9.later h).cells⟩ : _ ∧ _ ∧ _))
  have HLE := Lib.hid (fun x (h : Below W9.heap.size W9 x) => h.size)
  clear hb ht hv hb9 hW9 hd9 bx9 bu9 bg9
  go_upto_region 5 with fail
  rw [HW9.out]
  have HBd := Lib.hid (Below.refl W9.heap.size W9).drew
  obtain ⟨⟨c0, c1, c2⟩, ⟨d0, d1, d2⟩, ⟨e0, e1, e2⟩⟩ := HCELL.out _ HBd.out
  refine wp_region_seq [(0, false), (0, false), (0, true), (0, false), (0, false), (0, false), (0, true), (0, false), (0, false), (0, false), (0, false), (0, false), (0, false), (0, false), (0, true), (0, true), (0, true), (0, true), (0, false), (0, false), (0, false), (0, false), (0, false), (0, false)] (by kernel_rfl) (by kernel_rfl) (by kernel_rfl) (fun _ _ _ d _ h => by cases d <;> exact h) ?_
  repeat
    first
    | (first | with_reducible refine sp0 (fun K hK => ?_) | with_reducible refine sp1 (fun K hK => ?_) | with_reducible refine sp2 (fun K hK => ?_) | with_reducible refine sp3 (fun K hK => ?_) | with_reducible refine sp4 (fun K hK => ?_)
       go_simp
       first
       | (with_reducible refine hK _ _ ?_; clear hK K)
       | (with_reducible apply Exists.intro
          refine ⟨fun x hx => ?_, hK _ _ ?_⟩
          first
            | (with_reducible exact rfl)
            | (have y0 := keepc hx c0; have y1 := keepc hx c1; have y2 := keepc hx c2; have y3 := keepc hx d0; have y4 := keepc hx d1; have y5 := keepc hx d2; have y6 := keepc hx e0; have y7 := keepc hx e1; have y8 := keepc hx e2; go_simp; done)
            | (have y0 := keepc hx c0; have y1 := keepc hx c1; have y2 := keepc hx c2; have y3 := keepc hx d0; have y4 := keepc hx d1; have y5 := keepc hx d2; have y6 := keepc hx e0; have y7 := keepc hx e1; have y8 := keepc hx e2; go_simp; with_reducible exact rfl)
          clear hK K))
    | (first | with_reducible refine sk0 ?_ (fun K hK => ?_) | with_reducible refine sk1 ?_ (fun K hK => ?_) | with_reducible refine sk2 ?_ (fun K hK => ?_) | with_reducible refine sk3 ?_ (fun K hK => ?_) | with_reducible refine sk4 ?_ (fun K hK => ?_)
       rfl
       go_simp
       with_reducible refine hK _ _ ?_
       clear hK K)
  first | with_reducible refine sc0 (fun K hK => ?_) | with_reducible refine sc1 (fun K hK => ?_) | with_reducible refine sc2 (fun K hK => ?_) | with_reducible refine sc3 (fun K hK => ?_) | with_reducible refine sc4 (fun K hK => ?_)
  go_simp
  refine (HBT.out _ HBd.out).mono ?_
  clear c0 c1 c2 d0 d1 d2 e0 e1 e2
  rintro e x1 ⟨rfl, hb9⟩
  refine ⟨hb9, hK _ _ ?_⟩
  clear hK K
  have HE1 := Lib.hid (HBd.out.trans (hb9.mono (HLE.out _ HBd.out)))
  clear hb9
  obtain ⟨⟨c0, c1, c2⟩, ⟨d0, d1, d2⟩, ⟨e0, e1, e2⟩⟩ := HCELL.out x1 HE1.out
  repeat
    first
    | (first | with_reducible refine sp0 (fun K hK => ?_) | with_reducible refine sp1 (fun K hK => ?_) | with_reducible refine sp2 (fun K hK => ?_) | with_reducible refine sp3 (fun K hK => ?_) | with_reducible refine sp4 (fun K hK => ?_)
       go_simp
       first
       | (with_reducible refine hK _ _ ?_; clear hK K)
       | (with_reducible apply Exists.intro
          refine ⟨fun x hx => ?_, hK _ _ ?_⟩
          first
            | (with_reducible exact rfl)
            | (have y0 := keepc hx c0; have y1 := keepc hx c1; have y2 := keepc hx c2; have y3 := keepc hx d0; have y4 := keepc hx d1; have y5 := keepc hx d2; have y6 := keepc hx e0; have y7 := keepc hx e1; have y8 := keepc hx e2; go_simp; done)
            | (have y0 := keepc hx c0; have y1 := keepc hx c1; have y2 := keepc hx c2; have y3 := keepc hx d0; have y4 := keepc hx d1; have y5 := keepc hx d2; have y6 := keepc hx e0; have y7 := keepc hx e1; have y8 := keepc hx e2; go_simp; with_reducible exact rfl)
          clear hK K))
    | (first | with_reducible refine sk0 ?_ (fun K hK => ?_) | with_reducible refine sk1 ?_ (fun K hK => ?_) | with_reducible refine sk2 ?_ (fun K hK => ?_) | with_reducible refine sk3 ?_ (fun K hK => ?_) | with_reducible refine sk4 ?_ (fun K hK => ?_)
       rfl
       go_simp
       with_reducible refine hK _ _ ?_
       clear hK K)
  first | with_reducible refine sc0 (fun K hK => ?_) | with_reducible refine sc1 (fun K hK => ?_) | with_reducible refine sc2 (fun K hK => ?_) | with_reducible refine sc3 (fun K hK => ?_) | with_reducible refine sc4 (fun K hK => ?_)
  go_simp
  refine (HBU.out _ HE1.out).mono ?_
  clear c0 c1 c2 d0 d1 d2 e0 e1 e2
  rintro e x2 ⟨rfl, hb9⟩
  refine ⟨hb9, hK _ _ ?_⟩
  clear hK K
  have HE2 := Lib.hid (HE1.out.trans (hb9.mono (HLE.out _ HE1.out)))
  clear hb9
  obtain ⟨⟨c0, c1, c2⟩, ⟨d0, d1, d2⟩, ⟨e0, e1, e2⟩⟩ := HCELL.out x2 HE2.out
  repeat
    first
    | (first | with_reducible refine sp0 (fun K hK => ?_) | with_reducible refine sp1 (fun K hK => ?_) | with_reducible refine sp2 (fun K hK => ?_) | with_reducible refine sp3 (fun K hK => ?_) | with_reducible refine sp4 (fun K hK => ?_)
       go_simp
       first
       | (with_reducible refine hK _ _ ?_; clear hK K)
       | (with_reducible apply Exists.intro
          refine ⟨fun x hx => ?_, hK _ _ ?_⟩
          first
            | (with_reducible exact rfl)
            | (have y0 := keepc hx c0; have y1 := keepc hx c1; have y2 := keepc hx c2; have y3 := keepc hx d0; have y4 := keepc hx d1; have y5 := keepc hx d2; have y6 := keepc hx e0; have y7 := keepc hx e1; have y8 := keepc hx e2; go_simp; done)
            | (have y0 := keepc hx c0; have y1 := keepc hx c1; have y2 := keepc hx c2; have y3 := keepc hx d0; have y4 := keepc hx d1; have y5 := keepc hx d2; have y6 := keepc hx e0; have y7 := keepc hx e1; have y8 := keepc hx e2; go_simp; with_reducible exact rfl)
          clear hK K))
    | (first | with_reducible refine sk0 ?_ (fun K hK => ?_) | with_reducible refine sk1 ?_ (fun K hK => ?_) | with_reducible refine sk2 ?_ (fun K hK => ?_) | with_reducible refine sk3 ?_ (fun K hK => ?_) | with_reducible refine sk4 ?_ (fun K hK => ?_)
       rfl
       go_simp
       with_reducible refine hK _ _ ?_
       clear hK K)
  first | with_reducible refine sc0 (fun K hK => ?_) | with_reducible refine sc1 (fun K hK => ?_) | with_reducible refine sc2 (fun K hK => ?_) | with_reducible refine sc3 (fun K hK => ?_) | with_reducible refine sc4 (fun K hK => ?_)
  go_simp
  refine (L5.out _).mono ?_
  clear c0 c1 c2 d0 d1 d2 e0 e1 e2
  rintro e x3 ⟨rfl, hb9⟩
  refine ⟨hb9, hK _ _ ?_⟩
  clear hK K
  have HE3 := Lib.hid (HE2.out.trans (hb9.mono (HLE.out _ HE2.out)))
  clear hb9
  obtain ⟨⟨c0, c1, c2⟩, ⟨d0, d1, d2⟩, ⟨e0, e1, e2⟩⟩ := HCELL.out x3 HE3.out
  repeat
    first
    | (first | with_reducible refine sp0 (fun K hK => ?_) | with_reducible refine sp1 (fun K hK => ?_) | with_reducible refine sp2 (fun K hK => ?_) | with_reducible refine sp3 (fun K hK => ?_) | with_reducible refine sp4 (fun K hK => ?_)
       go_simp
       first
       | (with_reducible refine hK _ _ ?_; clear hK K)
       | (with_reducible apply Exists.intro
          refine ⟨fun x hx => ?_, hK _ _ ?_⟩
          first
            | (with_reducible exact rfl)
            | (have y0 := keepc hx c0; have y1 := keepc hx c1; have y2 := keepc hx c2; have y3 := keepc hx d0; have y4 := keepc hx d1; have y5 := keepc hx d2; have y6 := keepc hx e0; have y7 := keepc hx e1; have y8 := keepc hx e2; go_simp; done)
            | (have y0 := keepc hx c0; have y1 := keepc hx c1; have y2 := keepc hx c2; have y3 := keepc hx d0; have y4 := keepc hx d1; have y5 := keepc hx d2; have y6 := keepc hx e0; have y7 := keepc hx e1; have y8 := keepc hx e2; go_simp; with_reducible exact rfl)
          clear hK K))
    | (first | with_reducible refine sk0 ?_ (fun K hK => ?_) | with_reducible refine sk1 ?_ (fun K hK => ?_) | with_reducible refine sk2 ?_ (fun K hK => ?_) | with_reducible refine sk3 ?_ (fun K hK => ?_) | with_reducible refine sk4 ?_ (fun K hK => ?_)
       rfl
       go_simp
       with_reducible refine hK _ _ ?_
       clear hK K)
  first | with_reducible refine sc0 (fun K hK => ?_) | with_reducible refine sc1 (fun K hK => ?_) | with_reducible refine sc2 (fun K hK => ?_) | with_reducible refine sc3 (fun K hK => ?_) | with_reducible refine sc4 (fun K hK => ?_)
  go_simp
  refine (L5.out _).mono ?_
  clear c0 c1 c2 d0 d1 d2 e0 e1 e2
  rintro e x4 ⟨rfl, hb9⟩
  refine ⟨hb9, hK _ _ ?_⟩
  clear hK K
  have HE4 := Lib.hid (HE3.out.trans (hb9.mono (HLE.out _ HE3.out)))
  clear hb9
  obtain ⟨⟨c0, c1, c2⟩, ⟨d0, d1, d2⟩, ⟨e0, e1, e2⟩⟩ := HCELL.out x4 HE4.out
  repeat
    first
    | (first | with_reducible refine sp0 (fun K hK => ?_) | with_reducible refine sp1 (fun K hK => ?_) | with_reducible refine sp2 (fun K hK => ?_) | with_reducible refine sp3 (fun K hK => ?_) | with_reducible refine sp4 (fun K hK => ?_)
       go_simp
       first
       | (with_reducible refine hK _ _ ?_; clear hK K)
       | (with_reducible apply Exists.intro
          refine ⟨fun x hx => ?_, hK _ _ ?_⟩
          first
            | (with_reducible exact rfl)
            | (have y0 := keepc hx c0; have y1 := keepc hx c1; have y2 := keepc hx c2; have y3 := keepc hx d0; have y4 := keepc hx d1; have y5 := keepc hx d2; have y6 := keepc hx e0; have y7 := keepc hx e1; have y8 := keepc hx e2; go_simp; done)
            | (have y0 := keepc hx c0; have y1 := keepc hx c1; have y2 := keepc hx c2; have y3 := keepc hx d0; have y4 := keepc hx d1; have y5 := keepc hx d2; have y6 := keepc hx e0; have y7 := keepc hx e1; have y8 := keepc hx e2; go_simp; with_reducible exact rfl)
          clear hK K))
    | (first | with_reducible refine sk0 ?_ (fun K hK => ?_) | with_reducible refine sk1 ?_ (fun K hK => ?_) | with_reducible refine sk2 ?_ (fun K hK => ?_) | with_reducible refine sk3 ?_ (fun K hK => ?_) | with_reducible refine sk4 ?_ (fun K hK => ?_)
       rfl
       go_simp
       with_reducible refine hK _ _ ?_
       clear hK K)
  first | with_reducible refine sc0 (fun K hK => ?_) | with_reducible refine sc1 (fun K hK => ?_) | with_reducible refine sc2 (fun K hK => ?_) | with_reducible refine sc3 (fun K hK => ?_) | with_reducible refine sc4 (fun K hK => ?_)
  go_simp
  refine (T55.out _).mono ?_
  clear c0 c1 c2 d0 d1 d2 e0 e1 e2
  rintro e x5 ⟨g3, rfl, ht, hb⟩
  dsimp only [Tp.T.kind, Tp.T.num]
  refine ⟨hb, hK _ _ ?_⟩
  clear hK K
  have HE5 := Lib.hid (HE4.out.trans (hb.mono (HLE.out _ HE4.out))); have HT5 := Lib.hid ht
  clear hb ht
  obtain ⟨⟨c0, c1, c2⟩, ⟨d0, d1, d2⟩, ⟨e0, e1, e2⟩⟩ := HCELL.out _ HE5.out
  repeat
    first
    | (first | with_reducible refine sp0 (fun K hK => ?_) | with_reducible refine sp1 (fun K hK => ?_) | with_reducible refine sp2 (fun K hK => ?_) | with_reducible refine sp3 (fun K hK => ?_) | with_reducible refine sp4 (fun K hK => ?_)
       go_simp
       first
       | (with_reducible refine hK _ _ ?_; clear hK K)
       | (with_reducible apply Exists.intro
          refine ⟨fun x hx => ?_, hK _ _ ?_⟩
          first
            | (with_reducible exact rfl)
            | (have y0 := keepc hx c0; have y1 := keepc hx c1; have y2 := keepc hx c2; have y3 := keepc hx d0; have y4 := keepc hx d1; have y5 := keepc hx d2; have y6 := keepc hx e0; have y7 := keepc hx e1; have y8 := keepc hx e2; go_simp; done)
            | (have y0 := keepc hx c0; have y1 := keepc hx c1; have y2 := keepc hx c2; have y3 := keepc hx d0; have y4 := keepc hx d1; have y5 := keepc hx d2; have y6 := keepc hx e0; have y7 := keepc hx e1; have y8 := keepc hx e2; go_simp; with_reducible exact rfl)
          clear hK K))
    | (first | with_reducible refine sk0 ?_ (fun K hK => ?_) | with_reducible refine sk1 ?_ (fun K hK => ?_) | with_reducible refine sk2 ?_ (fun K hK => ?_) | with_reducible refine sk3 ?_ (fun K hK => ?_) | with_reducible refine sk4 ?_ (fun K hK => ?_)
       rfl
       go_simp
       with_reducible refine hK _ _ ?_
       clear hK K)
  first | with_reducible refine sc0 (fun K hK => ?_) | with_reducible refine sc1 (fun K hK => ?_) | with_reducible refine sc2 (fun K hK => ?_) | with_reducible refine sc3 (fun K hK => ?_) | with_reducible refine sc4 (fun K hK => ?_)
  go_simp
  refine (HSG.out _ HE5.out g3 HT5.out).mono ?_
  clear c0 c1 c2 d0 d1 d2 e0 e1 e2
  rintro e x6 ⟨rfl, hb9⟩
  refine ⟨hb9, hK _ _ ?_⟩
  clear hK K
  have HE6 := Lib.hid (HE5.out.trans (hb9.mono (HLE.out _ HE5.out)))
  clear hb9
  obtain ⟨⟨c0, c1, c2⟩, ⟨d0, d1, d2⟩, ⟨e0, e1, e2⟩⟩ := HCELL.out x6 HE6.out
  repeat
    first
    | (first | with_reducible refine sp0 (fun K hK => ?_) | with_reducible refine sp1 (fun K hK => ?_) | with_reducible refine sp2 (fun K hK => ?_) | with_reducible refine sp3 (fun K hK => ?_) | with_reducible refine sp4 (fun K hK => ?_)
       go_simp
       first
       | (with_reducible refine hK _ _ ?_; clear hK K)
       | (with_reducible apply Exists.intro
          refine ⟨fun x hx => ?_, hK _ _ ?_⟩
          first
            | (with_reducible exact rfl)
            | (have y0 := keepc hx c0; have y1 := keepc hx c1; have y2 := keepc hx c2; have y3 := keepc hx d0; have y4 := keepc hx d1; have y5 := keepc hx d2; have y6 := keepc hx e0; have y7 := keepc hx e1; have y8 := keepc hx e2; go_simp; done)
            | (have y0 := keepc hx c0; have y1 := keepc hx c1; have y2 := keepc hx c2; have y3 := keepc hx d0; have y4 := keepc hx d1; have y5 := keepc hx d2; have y6 := keepc hx e0; have y7 := keepc hx e1; have y8 := keepc hx e2; go_simp; with_reducible exact rfl)
          clear hK K))
    | (first | with_reducible refine sk0 ?_ (fun K hK => ?_) | with_reducible refine sk1 ?_ (fun K hK => ?_) | with_reducible refine sk2 ?_ (fun K hK => ?_) | with_reducible refine sk3 ?_ (fun K hK => ?_) | with_reducible refine sk4 ?_ (fun K hK => ?_)
       rfl
       go_simp
       with_reducible refine hK _ _ ?_
       clear hK K)
  with_reducible refine seq_nil ?_
  clear c0 c1 c2 d0 d1 d2 e0 e1 e2
  go_wp2_with fail
  go_ret
  exact ⟨rfl, HX9.out.tr HE6.out (Nat.le_refl _)⟩
end Go.Proofs.Ytcnnahmchjeakaa

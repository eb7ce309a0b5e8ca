/- The sample of stage 10's laws, walked. -/
import Derived.Test.YtafekidkikfpcaaSbY
import Derived.Test.YtafekidkikfpcaaPrT
namespace Go.Proofs.Ytafekidkikfpcaa
open Go Go.RowKit
open Tp (T Md)

theorem wake10_ok : Tp.right (funT 1 1) = true ∧ Tp.sb .p (funT 1 1) (.mk 5 0 []) = true ∧ Tp.sb .n (funT 1 1) (.mk 5 0 []) = false ∧ Tp.sb .n (.mk 5 0 []) (funT 1 1) = true ∧ Tp.sb .p (.mk 5 0 []) (funT 1 1) = false ∧ Tp.sb .s (funT 1 1) (funT 1 1) = true ∧ Tp.sb .s (funT 1 1) (.mk 5 0 []) = false ∧ Tp.sb .s (.mk 1 0 []) (.mk 5 0 []) = true := by
  have h : Tp.right (funT 1 1) = true := by simp [funT, Tp.right, Tp.rights, Tp.nodeRight, Tp.arity]
  have h1 : Tp.right (.mk 1 0 []) = true := by simp [Tp.right, Tp.rights, Tp.nodeRight, Tp.arity]
  have q := Tp.right_q
  have hd : Tp.dsub (funT 1 1) = false := by unfold funT; rw [Tp.dsub_fun]; simp [Tp.T.kind]
  have hd1 : Tp.dsub (.mk 1 0 []) = true := by unfold Tp.dsub; simp
  obtain ⟨a1, a2, a3⟩ := Tp.sub_law_dyn h
  refine ⟨h, a1, ?_, a2, ?_, Tp.sub_law_refl h _, ?_, ?_⟩
  · rw [Tp.sb_right h q, (Tp.sd_dyn h q rfl).2.1, hd]
  · rw [a3]; exact decide_eq_false (by simp [funT, Tp.T.kind])
  · rw [Tp.sb_right h q, (Tp.sd_dyn h q rfl).2.2, hd]
  · rw [Tp.sb_right h1 q, (Tp.sd_dyn h1 q rfl).2.2, hd1]

set_option maxRecDepth 100000 in
set_option maxHeartbeats 2000000 in
theorem wakes10_any (w : World) : Calls Try.prog 18 #[] w fun e w' => e = .returned (.bool true) ∧ Below w.heap.size w w' := by
  obtain ⟨-, s1, s2, s3, s4, s5, s6, s7⟩ := wake10_ok
  have h1 : I64 1 := i64_nat (by decide) (by decide)
  have h5 : I64 5 := i64_nat (by decide) (by decide)
  have h9 : I64 9 := i64_nat (by decide) (by decide)
  have L1 := Lib.hid (fun w1 => leaf_any 1 w1); have L5 := Lib.hid (fun w1 => leaf_any 5 w1)
  have T11 := Lib.hid (fun (w1 : World) => two_any 9 h9 (.mk 1 0 []) 1 0 0 none 0 (.mk 1 0 []) 1 0 0 none 0 w1 ⟨rfl, rfl, rfl⟩ ⟨rfl, rfl, rfl⟩ (leaf_at h1) (leaf_at h1))
  have H1 := Lib.hid h1; have H5 := Lib.hid h5
  have S1 := Lib.hid s1; have S2 := Lib.hid s2; have S3 := Lib.hid s3; have S4 := Lib.hid s4; have S5 := Lib.hid s5; have S6 := Lib.hid s6; have S7 := Lib.hid s7
  clear s1 s2 s3 s4 s5 s6 s7 h1 h5 h9
  go_enter Try.func18, Try.ntmps18
  go_wp2_with fail
  refine (L1.out w).mono ?_
  rintro e w1 ⟨rfl, hb⟩
  have HX1 := Lib.hid hb; clear hb
  go_wp2_with fail
  refine (L1.out w1).mono ?_
  rintro e w2 ⟨rfl, hb⟩
  have HX2 := Lib.hid (HX1.out.tr hb (Nat.le_refl _)); clear hb
  go_wp2_with fail
  refine (T11.out w2).mono ?_
  rintro e w3 ⟨g1, rfl, ht, hb⟩
  dsimp only [Tp.T.kind, Tp.T.num]
  obtain ⟨W3, hW3⟩ : ∃ W, w3.alloc (.cells #[.int .i64 9, .int .i64 0, .slice (some ⟨g1, 0, none⟩) 2 2] 24) = W := ⟨_, rfl⟩
  obtain ⟨bx, hb3⟩ := box_new (fun_tv 1 1) ht hW3
  have HX3 := Lib.hid ((HX2.out.tr hb (Nat.le_refl _)).tr hb3 (Nat.le_refl _)); have BX := Lib.hid bx; have HW3 := Lib.hid hW3
  clear hb ht bx hb3 hW3
  go_upto_region 2 with fail
  rw [HW3.out]
  go_wp2_with fail
  refine (L5.out W3).mono ?_
  rintro e w4 ⟨rfl, hb⟩
  obtain ⟨W4, hW4⟩ : ∃ W, w4.alloc (.cells #[.int .i64 5, .int .i64 0, .slice none 0 0] 24) = W := ⟨_, rfl⟩
  obtain ⟨bd, hb4⟩ := box_new (t := .mk 5 0 []) (k := 5) (n := 0) (m := 0) (a := none) (c := 0) ⟨rfl, rfl, rfl⟩ (leaf_at H5.out) hW4
  have hbb := hb.tr hb4 (Nat.le_refl _)
  have bx4 := BX.out.later hbb
  have HX4 := Lib.hid (HX3.out.tr hbb (Nat.le_refl _)); have HW4 := Lib.hid hW4
  have hd5 : Tp.size (.mk 5 0 []) ≤ 10000 := by simp [Tp.size, Tp.sizes]
  have hd1 : Tp.size (.mk 1 0 []) ≤ 10000 := by simp [Tp.size, Tp.sizes]
  have C1 := Lib.hid (fun x (h : Below W4.heap.size W4 x) => pos_any (w := x) (bx4.later h).says (bd.later h).says (bx4.later h).ty (bd.later h).ty (fun_size 1 1) hd5)
  have C2 := Lib.hid (fun x (h : Below W4.heap.size W4 x) => neg_any (w := x) (bx4.later h).says (bd.later h).says (bx4.later h).ty (bd.later h).ty (fun_size 1 1) hd5)
  have C3 := Lib.hid (fun x (h : Below W4.heap.size W4 x) => neg_any (w := x) (bd.later h).says (bx4.later h).says (bd.later h).ty (bx4.later h).ty hd5 (fun_size 1 1))
  have C4 := Lib.hid (fun x (h : Below W4.heap.size W4 x) => pos_any (w := x) (bd.later h).says (bx4.later h).says (bd.later h).ty (bx4.later h).ty hd5 (fun_size 1 1))
  have C5 := Lib.hid (fun x (h : Below W4.heap.size W4 x) => sub_any (w := x) (bx4.later h).says (bx4.later h).says (bx4.later h).ty (bx4.later h).ty (fun_size 1 1) (fun_size 1 1))
  have C6 := Lib.hid (fun x (h : Below W4.heap.size W4 x) => sub_any (w := x) (bx4.later h).says (bd.later h).says (bx4.later h).ty (bd.later h).ty (fun_size 1 1) hd5)
  have C7 := Lib.hid (fun x (h : Below W4.heap.size W4 x) => sub_any (w := x) (t := .mk 1 0 []) (k0 := 1) (n0 := 0) (m0 := 0) (a := none) (cap := 0) ⟨rfl, rfl, rfl⟩ (bd.later h).says (leaf_at H1.out) (bd.later h).ty hd1 hd5)
  rw [S1.out] at C1; rw [S2.out] at C2; rw [S3.out] at C3; rw [S4.out] at C4; rw [S5.out] at C5; rw [S6.out] at C6; rw [S7.out] at C7
  have HCELL := Lib.hid (fun x (h : Below W4.heap.size W4 x) => (⟨(bx4.later h).cells, (bd.later h).cells⟩ : _ ∧ _))
  have HLE := Lib.hid (fun x (h : Below W4.heap.size W4 x) => h.size)
  clear hb hb4 hbb bx4 bd hW4 hd5 hd1 S1 S2 S3 S4 S5 S6 S7 H1 H5 T11 HW3 BX HX1 HX2 HX3
  go_upto_region 3 with fail
  rw [HW4.out]
  have HBd := Lib.hid (Below.refl W4.heap.size W4).drew
  obtain ⟨⟨c0, c1, c2⟩, ⟨d0, d1, d2⟩⟩ := HCELL.out _ HBd.out
  refine wp_region_seq [(0, false), (0, false), (0, true), (0, false), (0, false), (0, false), (0, true), (0, false), (0, false), (0, false), (0, false), (0, false), (0, true), (0, false), (0, false), (0, false), (0, false), (0, true), (0, false), (0, false), (0, false), (0, false), (0, false), (0, true), (0, false), (0, false), (0, false), (0, false), (0, true), (0, false), (0, false), (0, false), (1, false), (0, true), (0, true), (0, false), (0, false)] (by kernel_rfl) (by kernel_rfl) (by kernel_rfl) (fun _ _ _ d _ h => by cases d <;> exact h) ?_
  repeat
    first
    | (first | with_reducible refine sp0 (fun K hK => ?_) | with_reducible refine sp1 (fun K hK => ?_) | with_reducible refine sp2 (fun K hK => ?_) | with_reducible refine sp3 (fun K hK => ?_) | with_reducible refine sp4 (fun K hK => ?_)
       go_simp
       first
       | (with_reducible refine hK _ _ ?_; clear hK K)
       | (with_reducible apply Exists.intro
          refine ⟨fun x hx => ?_, hK _ _ ?_⟩
          first
            | (with_reducible exact rfl)
            | (have y0 := keepc hx c0; have y1 := keepc hx c1; have y2 := keepc hx c2; have y3 := keepc hx d0; have y4 := keepc hx d1; have y5 := keepc hx d2; go_simp; done)
            | (have y0 := keepc hx c0; have y1 := keepc hx c1; have y2 := keepc hx c2; have y3 := keepc hx d0; have y4 := keepc hx d1; have y5 := keepc hx d2; go_simp; with_reducible exact rfl)
          clear hK K))
    | (first | with_reducible refine sk0 ?_ (fun K hK => ?_) | with_reducible refine sk1 ?_ (fun K hK => ?_) | with_reducible refine sk2 ?_ (fun K hK => ?_) | with_reducible refine sk3 ?_ (fun K hK => ?_) | with_reducible refine sk4 ?_ (fun K hK => ?_)
       rfl
       go_simp
       with_reducible refine hK _ _ ?_
       clear hK K)
  first | with_reducible refine sc0 (fun K hK => ?_) | with_reducible refine sc1 (fun K hK => ?_) | with_reducible refine sc2 (fun K hK => ?_) | with_reducible refine sc3 (fun K hK => ?_) | with_reducible refine sc4 (fun K hK => ?_)
  go_simp
  refine (C1.out _ HBd.out).mono ?_
  clear c0 c1 c2 d0 d1 d2
  rintro e x1 ⟨rfl, hb9⟩
  refine ⟨hb9, hK _ _ ?_⟩
  clear hK K
  have HE1 := Lib.hid (HBd.out.trans (hb9.mono (HLE.out _ HBd.out)))
  clear hb9
  obtain ⟨⟨c0, c1, c2⟩, ⟨d0, d1, d2⟩⟩ := HCELL.out x1 HE1.out
  repeat
    first
    | (first | with_reducible refine sp0 (fun K hK => ?_) | with_reducible refine sp1 (fun K hK => ?_) | with_reducible refine sp2 (fun K hK => ?_) | with_reducible refine sp3 (fun K hK => ?_) | with_reducible refine sp4 (fun K hK => ?_)
       go_simp
       first
       | (with_reducible refine hK _ _ ?_; clear hK K)
       | (with_reducible apply Exists.intro
          refine ⟨fun x hx => ?_, hK _ _ ?_⟩
          first
            | (with_reducible exact rfl)
            | (have y0 := keepc hx c0; have y1 := keepc hx c1; have y2 := keepc hx c2; have y3 := keepc hx d0; have y4 := keepc hx d1; have y5 := keepc hx d2; go_simp; done)
            | (have y0 := keepc hx c0; have y1 := keepc hx c1; have y2 := keepc hx c2; have y3 := keepc hx d0; have y4 := keepc hx d1; have y5 := keepc hx d2; go_simp; with_reducible exact rfl)
          clear hK K))
    | (first | with_reducible refine sk0 ?_ (fun K hK => ?_) | with_reducible refine sk1 ?_ (fun K hK => ?_) | with_reducible refine sk2 ?_ (fun K hK => ?_) | with_reducible refine sk3 ?_ (fun K hK => ?_) | with_reducible refine sk4 ?_ (fun K hK => ?_)
       rfl
       go_simp
       with_reducible refine hK _ _ ?_
       clear hK K)
  first | with_reducible refine sc0 (fun K hK => ?_) | with_reducible refine sc1 (fun K hK => ?_) | with_reducible refine sc2 (fun K hK => ?_) | with_reducible refine sc3 (fun K hK => ?_) | with_reducible refine sc4 (fun K hK => ?_)
  go_simp
  refine (C2.out _ HE1.out).mono ?_
  clear c0 c1 c2 d0 d1 d2
  rintro e x2 ⟨rfl, hb9⟩
  refine ⟨hb9, hK _ _ ?_⟩
  clear hK K
  have HE2 := Lib.hid (HE1.out.trans (hb9.mono (HLE.out _ HE1.out)))
  clear hb9
  obtain ⟨⟨c0, c1, c2⟩, ⟨d0, d1, d2⟩⟩ := HCELL.out x2 HE2.out
  repeat
    first
    | (first | with_reducible refine sp0 (fun K hK => ?_) | with_reducible refine sp1 (fun K hK => ?_) | with_reducible refine sp2 (fun K hK => ?_) | with_reducible refine sp3 (fun K hK => ?_) | with_reducible refine sp4 (fun K hK => ?_)
       go_simp
       first
       | (with_reducible refine hK _ _ ?_; clear hK K)
       | (with_reducible apply Exists.intro
          refine ⟨fun x hx => ?_, hK _ _ ?_⟩
          first
            | (with_reducible exact rfl)
            | (have y0 := keepc hx c0; have y1 := keepc hx c1; have y2 := keepc hx c2; have y3 := keepc hx d0; have y4 := keepc hx d1; have y5 := keepc hx d2; go_simp; done)
            | (have y0 := keepc hx c0; have y1 := keepc hx c1; have y2 := keepc hx c2; have y3 := keepc hx d0; have y4 := keepc hx d1; have y5 := keepc hx d2; go_simp; with_reducible exact rfl)
          clear hK K))
    | (first | with_reducible refine sk0 ?_ (fun K hK => ?_) | with_reducible refine sk1 ?_ (fun K hK => ?_) | with_reducible refine sk2 ?_ (fun K hK => ?_) | with_reducible refine sk3 ?_ (fun K hK => ?_) | with_reducible refine sk4 ?_ (fun K hK => ?_)
       rfl
       go_simp
       with_reducible refine hK _ _ ?_
       clear hK K)
  first | with_reducible refine sc0 (fun K hK => ?_) | with_reducible refine sc1 (fun K hK => ?_) | with_reducible refine sc2 (fun K hK => ?_) | with_reducible refine sc3 (fun K hK => ?_) | with_reducible refine sc4 (fun K hK => ?_)
  go_simp
  refine (C3.out _ HE2.out).mono ?_
  clear c0 c1 c2 d0 d1 d2
  rintro e x3 ⟨rfl, hb9⟩
  refine ⟨hb9, hK _ _ ?_⟩
  clear hK K
  have HE3 := Lib.hid (HE2.out.trans (hb9.mono (HLE.out _ HE2.out)))
  clear hb9
  obtain ⟨⟨c0, c1, c2⟩, ⟨d0, d1, d2⟩⟩ := HCELL.out x3 HE3.out
  repeat
    first
    | (first | with_reducible refine sp0 (fun K hK => ?_) | with_reducible refine sp1 (fun K hK => ?_) | with_reducible refine sp2 (fun K hK => ?_) | with_reducible refine sp3 (fun K hK => ?_) | with_reducible refine sp4 (fun K hK => ?_)
       go_simp
       first
       | (with_reducible refine hK _ _ ?_; clear hK K)
       | (with_reducible apply Exists.intro
          refine ⟨fun x hx => ?_, hK _ _ ?_⟩
          first
            | (with_reducible exact rfl)
            | (have y0 := keepc hx c0; have y1 := keepc hx c1; have y2 := keepc hx c2; have y3 := keepc hx d0; have y4 := keepc hx d1; have y5 := keepc hx d2; go_simp; done)
            | (have y0 := keepc hx c0; have y1 := keepc hx c1; have y2 := keepc hx c2; have y3 := keepc hx d0; have y4 := keepc hx d1; have y5 := keepc hx d2; go_simp; with_reducible exact rfl)
          clear hK K))
    | (first | with_reducible refine sk0 ?_ (fun K hK => ?_) | with_reducible refine sk1 ?_ (fun K hK => ?_) | with_reducible refine sk2 ?_ (fun K hK => ?_) | with_reducible refine sk3 ?_ (fun K hK => ?_) | with_reducible refine sk4 ?_ (fun K hK => ?_)
       rfl
       go_simp
       with_reducible refine hK _ _ ?_
       clear hK K)
  first | with_reducible refine sc0 (fun K hK => ?_) | with_reducible refine sc1 (fun K hK => ?_) | with_reducible refine sc2 (fun K hK => ?_) | with_reducible refine sc3 (fun K hK => ?_) | with_reducible refine sc4 (fun K hK => ?_)
  go_simp
  refine (C4.out _ HE3.out).mono ?_
  clear c0 c1 c2 d0 d1 d2
  rintro e x4 ⟨rfl, hb9⟩
  refine ⟨hb9, hK _ _ ?_⟩
  clear hK K
  have HE4 := Lib.hid (HE3.out.trans (hb9.mono (HLE.out _ HE3.out)))
  clear hb9
  obtain ⟨⟨c0, c1, c2⟩, ⟨d0, d1, d2⟩⟩ := HCELL.out x4 HE4.out
  repeat
    first
    | (first | with_reducible refine sp0 (fun K hK => ?_) | with_reducible refine sp1 (fun K hK => ?_) | with_reducible refine sp2 (fun K hK => ?_) | with_reducible refine sp3 (fun K hK => ?_) | with_reducible refine sp4 (fun K hK => ?_)
       go_simp
       first
       | (with_reducible refine hK _ _ ?_; clear hK K)
       | (with_reducible apply Exists.intro
          refine ⟨fun x hx => ?_, hK _ _ ?_⟩
          first
            | (with_reducible exact rfl)
            | (have y0 := keepc hx c0; have y1 := keepc hx c1; have y2 := keepc hx c2; have y3 := keepc hx d0; have y4 := keepc hx d1; have y5 := keepc hx d2; go_simp; done)
            | (have y0 := keepc hx c0; have y1 := keepc hx c1; have y2 := keepc hx c2; have y3 := keepc hx d0; have y4 := keepc hx d1; have y5 := keepc hx d2; go_simp; with_reducible exact rfl)
          clear hK K))
    | (first | with_reducible refine sk0 ?_ (fun K hK => ?_) | with_reducible refine sk1 ?_ (fun K hK => ?_) | with_reducible refine sk2 ?_ (fun K hK => ?_) | with_reducible refine sk3 ?_ (fun K hK => ?_) | with_reducible refine sk4 ?_ (fun K hK => ?_)
       rfl
       go_simp
       with_reducible refine hK _ _ ?_
       clear hK K)
  first | with_reducible refine sc0 (fun K hK => ?_) | with_reducible refine sc1 (fun K hK => ?_) | with_reducible refine sc2 (fun K hK => ?_) | with_reducible refine sc3 (fun K hK => ?_) | with_reducible refine sc4 (fun K hK => ?_)
  go_simp
  refine (C5.out _ HE4.out).mono ?_
  clear c0 c1 c2 d0 d1 d2
  rintro e x5 ⟨rfl, hb9⟩
  refine ⟨hb9, hK _ _ ?_⟩
  clear hK K
  have HE5 := Lib.hid (HE4.out.trans (hb9.mono (HLE.out _ HE4.out)))
  clear hb9
  obtain ⟨⟨c0, c1, c2⟩, ⟨d0, d1, d2⟩⟩ := HCELL.out x5 HE5.out
  repeat
    first
    | (first | with_reducible refine sp0 (fun K hK => ?_) | with_reducible refine sp1 (fun K hK => ?_) | with_reducible refine sp2 (fun K hK => ?_) | with_reducible refine sp3 (fun K hK => ?_) | with_reducible refine sp4 (fun K hK => ?_)
       go_simp
       first
       | (with_reducible refine hK _ _ ?_; clear hK K)
       | (with_reducible apply Exists.intro
          refine ⟨fun x hx => ?_, hK _ _ ?_⟩
          first
            | (with_reducible exact rfl)
            | (have y0 := keepc hx c0; have y1 := keepc hx c1; have y2 := keepc hx c2; have y3 := keepc hx d0; have y4 := keepc hx d1; have y5 := keepc hx d2; go_simp; done)
            | (have y0 := keepc hx c0; have y1 := keepc hx c1; have y2 := keepc hx c2; have y3 := keepc hx d0; have y4 := keepc hx d1; have y5 := keepc hx d2; go_simp; with_reducible exact rfl)
          clear hK K))
    | (first | with_reducible refine sk0 ?_ (fun K hK => ?_) | with_reducible refine sk1 ?_ (fun K hK => ?_) | with_reducible refine sk2 ?_ (fun K hK => ?_) | with_reducible refine sk3 ?_ (fun K hK => ?_) | with_reducible refine sk4 ?_ (fun K hK => ?_)
       rfl
       go_simp
       with_reducible refine hK _ _ ?_
       clear hK K)
  first | with_reducible refine sc0 (fun K hK => ?_) | with_reducible refine sc1 (fun K hK => ?_) | with_reducible refine sc2 (fun K hK => ?_) | with_reducible refine sc3 (fun K hK => ?_) | with_reducible refine sc4 (fun K hK => ?_)
  go_simp
  refine (C6.out _ HE5.out).mono ?_
  clear c0 c1 c2 d0 d1 d2
  rintro e x6 ⟨rfl, hb9⟩
  refine ⟨hb9, hK _ _ ?_⟩
  clear hK K
  have HE6 := Lib.hid (HE5.out.trans (hb9.mono (HLE.out _ HE5.out)))
  clear hb9
  obtain ⟨⟨c0, c1, c2⟩, ⟨d0, d1, d2⟩⟩ := HCELL.out x6 HE6.out
  repeat
    first
    | (first | with_reducible refine sp0 (fun K hK => ?_) | with_reducible refine sp1 (fun K hK => ?_) | with_reducible refine sp2 (fun K hK => ?_) | with_reducible refine sp3 (fun K hK => ?_) | with_reducible refine sp4 (fun K hK => ?_)
       go_simp
       first
       | (with_reducible refine hK _ _ ?_; clear hK K)
       | (with_reducible apply Exists.intro
          refine ⟨fun x hx => ?_, hK _ _ ?_⟩
          first
            | (with_reducible exact rfl)
            | (have y0 := keepc hx c0; have y1 := keepc hx c1; have y2 := keepc hx c2; have y3 := keepc hx d0; have y4 := keepc hx d1; have y5 := keepc hx d2; go_simp; done)
            | (have y0 := keepc hx c0; have y1 := keepc hx c1; have y2 := keepc hx c2; have y3 := keepc hx d0; have y4 := keepc hx d1; have y5 := keepc hx d2; go_simp; with_reducible exact rfl)
          clear hK K))
    | (first | with_reducible refine sk0 ?_ (fun K hK => ?_) | with_reducible refine sk1 ?_ (fun K hK => ?_) | with_reducible refine sk2 ?_ (fun K hK => ?_) | with_reducible refine sk3 ?_ (fun K hK => ?_) | with_reducible refine sk4 ?_ (fun K hK => ?_)
       rfl
       go_simp
       with_reducible refine hK _ _ ?_
       clear hK K)
  first | with_reducible refine sc0 (fun K hK => ?_) | with_reducible refine sc1 (fun K hK => ?_) | with_reducible refine sc2 (fun K hK => ?_) | with_reducible refine sc3 (fun K hK => ?_) | with_reducible refine sc4 (fun K hK => ?_)
  go_simp
  refine (L1.out _).mono ?_
  clear c0 c1 c2 d0 d1 d2
  rintro e x7 ⟨rfl, hb9⟩
  refine ⟨hb9, hK _ _ ?_⟩
  clear hK K
  have HE7 := Lib.hid (HE6.out.trans (hb9.mono (HLE.out _ HE6.out)))
  clear hb9
  obtain ⟨⟨c0, c1, c2⟩, ⟨d0, d1, d2⟩⟩ := HCELL.out x7 HE7.out
  repeat
    first
    | (first | with_reducible refine sp0 (fun K hK => ?_) | with_reducible refine sp1 (fun K hK => ?_) | with_reducible refine sp2 (fun K hK => ?_) | with_reducible refine sp3 (fun K hK => ?_) | with_reducible refine sp4 (fun K hK => ?_)
       go_simp
       first
       | (with_reducible refine hK _ _ ?_; clear hK K)
       | (with_reducible apply Exists.intro
          refine ⟨fun x hx => ?_, hK _ _ ?_⟩
          first
            | (with_reducible exact rfl)
            | (have y0 := keepc hx c0; have y1 := keepc hx c1; have y2 := keepc hx c2; have y3 := keepc hx d0; have y4 := keepc hx d1; have y5 := keepc hx d2; go_simp; done)
            | (have y0 := keepc hx c0; have y1 := keepc hx c1; have y2 := keepc hx c2; have y3 := keepc hx d0; have y4 := keepc hx d1; have y5 := keepc hx d2; go_simp; with_reducible exact rfl)
          clear hK K))
    | (first | with_reducible refine sk0 ?_ (fun K hK => ?_) | with_reducible refine sk1 ?_ (fun K hK => ?_) | with_reducible refine sk2 ?_ (fun K hK => ?_) | with_reducible refine sk3 ?_ (fun K hK => ?_) | with_reducible refine sk4 ?_ (fun K hK => ?_)
       rfl
       go_simp
       with_reducible refine hK _ _ ?_
       clear hK K)
  first | with_reducible refine sc0 (fun K hK => ?_) | with_reducible refine sc1 (fun K hK => ?_) | with_reducible refine sc2 (fun K hK => ?_) | with_reducible refine sc3 (fun K hK => ?_) | with_reducible refine sc4 (fun K hK => ?_)
  go_simp
  refine (C7.out _ HE7.out).mono ?_
  clear c0 c1 c2 d0 d1 d2
  rintro e x8 ⟨rfl, hb9⟩
  refine ⟨hb9, hK _ _ ?_⟩
  clear hK K
  have HE8 := Lib.hid (HE7.out.trans (hb9.mono (HLE.out _ HE7.out)))
  clear hb9
  obtain ⟨⟨c0, c1, c2⟩, ⟨d0, d1, d2⟩⟩ := HCELL.out x8 HE8.out
  repeat
    first
    | (first | with_reducible refine sp0 (fun K hK => ?_) | with_reducible refine sp1 (fun K hK => ?_) | with_reducible refine sp2 (fun K hK => ?_) | with_reducible refine sp3 (fun K hK => ?_) | with_reducible refine sp4 (fun K hK => ?_)
       go_simp
       first
       | (with_reducible refine hK _ _ ?_; clear hK K)
       | (with_reducible apply Exists.intro
          refine ⟨fun x hx => ?_, hK _ _ ?_⟩
          first
            | (with_reducible exact rfl)
            | (have y0 := keepc hx c0; have y1 := keepc hx c1; have y2 := keepc hx c2; have y3 := keepc hx d0; have y4 := keepc hx d1; have y5 := keepc hx d2; go_simp; done)
            | (have y0 := keepc hx c0; have y1 := keepc hx c1; have y2 := keepc hx c2; have y3 := keepc hx d0; have y4 := keepc hx d1; have y5 := keepc hx d2; go_simp; with_reducible exact rfl)
          clear hK K))
    | (first | with_reducible refine sk0 ?_ (fun K hK => ?_) | with_reducible refine sk1 ?_ (fun K hK => ?_) | with_reducible refine sk2 ?_ (fun K hK => ?_) | with_reducible refine sk3 ?_ (fun K hK => ?_) | with_reducible refine sk4 ?_ (fun K hK => ?_)
       rfl
       go_simp
       with_reducible refine hK _ _ ?_
       clear hK K)
  with_reducible refine seq_nil ?_
  clear c0 c1 c2 d0 d1 d2
  go_wp2_with fail
  go_ret
  exact ⟨rfl, HX4.out.tr HE8.out (Nat.le_refl _)⟩
end Go.Proofs.Ytafekidkikfpcaa

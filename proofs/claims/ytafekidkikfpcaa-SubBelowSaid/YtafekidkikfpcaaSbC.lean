/- The law SubBelow: its walk. -/
import Derived.Test.YtafekidkikfpcaaSbK
namespace Go.Proofs.Ytafekidkikfpcaa
open Go Go.RowKit
open Tp (T Md)

set_option maxRecDepth 100000 in
set_option maxHeartbeats 8000000 in
theorem lbelow10_any (t : T) (a : Option Addr) (cap : Nat) (u : T) (b : Option Addr) (cap' : Nat) (w : World) (hty : TyAt (LT w.heap.size) w t a cap) (hty' : TyAt (LT w.heap.size) w u b cap') :
    Calls Try.prog 5 #[tv t a cap, tv u b cap'] w fun e w' => e = .returned (.bool true) ∧ Below w.heap.size w w' := by
  obtain ⟨k0, n0, m0, hv⟩ := TV.mk t
  obtain ⟨k9, n9, m9, hv'⟩ := TV.mk u
  rw [tv_of hv, tv_of hv']
  obtain ⟨W3, hW3⟩ : ∃ W2, (w.alloc (.cells #[.int .i64 k0, .int .i64 n0, .slice a m0 cap] 24)).alloc (.cells #[.int .i64 k9, .int .i64 n9, .slice b m9 cap'] 24) = W2 := ⟨_, rfl⟩
  have hb3 : Below w.heap.size w W3 := by rw [← hW3]; exact ((Below.refl _ _).alloc (Nat.le_refl _) _).alloc (by simp) _
  have bx : BoxT W3 w.heap.size t k0 n0 m0 a cap := ⟨hv, by rw [← hW3]; exact box1 _ _ _ _ _, ty_later hty hb3⟩
  have bu : BoxT W3 (w.heap.size + 1) u k9 n9 m9 b cap' := ⟨hv', by rw [← hW3]; exact box2 _ _ _ _ _, ty_later hty' hb3⟩
  obtain ⟨rr, hrr⟩ : ∃ r, (!decide (600 < Tp.sizes [t, u]) && Tp.rights [t, u]) = r := ⟨_, rfl⟩
  have hri := lright_any [t, u] (some ⟨W3.heap.size, 0, none⟩) 2 _ (by simp) (row_two bx.ty bu.ty hv.1 hv.2.1 hv.2.2 hv'.1 hv'.2.1 hv'.2.2)
  rw [hrr] at hri
  have HRI := Lib.hid hri; have HRR := Lib.hid hrr; have HB3 := Lib.hid hb3; have HW3 := Lib.hid hW3; have BX := Lib.hid bx; have BU := Lib.hid bu
  clear hri hrr hb3 hW3 hty hty' hv hv'
  go_enter Try.func5, Try.ntmps5
  go_upto_region 1 with fail
  rw [HW3.out]
  obtain ⟨c0, c1, c2⟩ := bx.cells
  obtain ⟨d0, d1, d2⟩ := bu.cells
  clear bx bu
  cases rr with
  | false =>
    go_wp2_with (go_at_call 19; refine HRI.out.mono ?_; clear c0 c1 c2 d0 d1 d2; rintro e w4 ⟨rfl, hb⟩; have HB4 := Lib.hid (Go.RowKit.Below.tr ((Below.refl W3.heap.size W3).alloc (Nat.le_refl _) _) hb (Nat.le_refl _)); clear hb)
    go_ret
    exact ⟨rfl, HB3.out.tr HB4.out (Nat.le_refl _)⟩
  | true =>
    obtain ⟨hrt, hru, hsz⟩ := pair_right HRR.out
    have hst : Tp.size t ≤ 10000 := by omega
    have hsu : Tp.size u ≤ 10000 := by omega
    go_upto_region 3 with (go_at_call 19; refine HRI.out.mono ?_; clear c0 c1 c2 d0 d1 d2; rintro e w4 ⟨rfl, hb⟩; have HB4 := Lib.hid (Go.RowKit.Below.tr ((Below.refl W3.heap.size W3).alloc (Nat.le_refl _) _) hb (Nat.le_refl _)); clear hb)
    have bx4 := BX.out.later HB4.out; have bu4 := BU.out.later HB4.out
    have HWAK := Lib.hid (fun x (_ : Below w4.heap.size w4 x) => wakes10_any x)
    have HCELL := Lib.hid (fun x (h : Below w4.heap.size w4 x) => (⟨(bx4.later h).cells, (bu4.later h).cells⟩ : _ ∧ _))
    have HLE := Lib.hid (fun x (h : Below w4.heap.size w4 x) => h.size)
    have HF := Lib.hid (fun x (h : Below w4.heap.size w4 x) => bl_any (w := x) (bx4.later h).says (bu4.later h).says (bx4.later h).ty (bu4.later h).ty hst hsu)
    have HP := Lib.hid (fun x (h : Below w4.heap.size w4 x) => pos_any (w := x) (bx4.later h).says (bu4.later h).says (bx4.later h).ty (bu4.later h).ty hst hsu)
    have HNG := Lib.hid (fun x (h : Below w4.heap.size w4 x) => neg_any (w := x) (bu4.later h).says (bx4.later h).says (bu4.later h).ty (bx4.later h).ty hsu hst)
    have heq := Tp.sub_law_below hrt hru
    rw [heq] at HF
    obtain ⟨p, hp⟩ : ∃ z, Tp.sb .p t u = z := ⟨_, rfl⟩
    obtain ⟨n, hn⟩ : ∃ z, Tp.sb .n u t = z := ⟨_, rfl⟩
    rw [hp, hn] at HF; rw [hp] at HP; rw [hn] at HNG
    clear heq hp hn bx4 bu4 hrt hru hsz hst hsu
    have HBd := Lib.hid (Below.refl w4.heap.size w4).drew
    obtain ⟨⟨c0, c1, c2⟩, ⟨d0, d1, d2⟩⟩ := HCELL.out _ HBd.out
    cases p with
    | false =>
      simp only [Bool.false_and] at HF
      refine wp_region_seq [(0, false), (0, false), (1, false), (1, false), (0, true), (0, true), (0, false), (0, false), (0, false), (0, true), (0, false), (0, false), (0, false), (0, true), (0, false), (0, false)] (by kernel_rfl) (by kernel_rfl) (by kernel_rfl) (fun _ _ _ d _ h => by cases d <;> exact h) ?_
      repeat
        first
        | (first | with_reducible refine sp0 (fun K hK => ?_) | with_reducible refine sp1 (fun K hK => ?_) | with_reducible refine sp2 (fun K hK => ?_) | with_reducible refine sp3 (fun K hK => ?_) | with_reducible refine sp4 (fun K hK => ?_)
           go_simp
           first
           | (with_reducible refine hK _ _ ?_; clear hK K)
           | (with_reducible apply Exists.intro
              refine ⟨fun x hx => ?_, hK _ _ ?_⟩
              first
                | (with_reducible exact rfl)
                | (have y0 := keepc hx c0; have y1 := keepc hx c1; have y2 := keepc hx c2; have y3 := keepc hx d0; have y4 := keepc hx d1; have y5 := keepc hx d2; go_simp; done)
                | (have y0 := keepc hx c0; have y1 := keepc hx c1; have y2 := keepc hx c2; have y3 := keepc hx d0; have y4 := keepc hx d1; have y5 := keepc hx d2; go_simp; with_reducible exact rfl)
              clear hK K))
        | (first | with_reducible refine sk0 ?_ (fun K hK => ?_) | with_reducible refine sk1 ?_ (fun K hK => ?_) | with_reducible refine sk2 ?_ (fun K hK => ?_) | with_reducible refine sk3 ?_ (fun K hK => ?_) | with_reducible refine sk4 ?_ (fun K hK => ?_)
           rfl
           go_simp
           with_reducible refine hK _ _ ?_
           clear hK K)
      first | with_reducible refine sc0 (fun K hK => ?_) | with_reducible refine sc1 (fun K hK => ?_) | with_reducible refine sc2 (fun K hK => ?_) | with_reducible refine sc3 (fun K hK => ?_) | with_reducible refine sc4 (fun K hK => ?_)
      go_simp
      refine (HF.out _ HBd.out).mono ?_
      clear c0 c1 c2 d0 d1 d2
      rintro e x0 ⟨rfl, hb9⟩
      refine ⟨hb9, hK _ _ ?_⟩
      clear hK K
      have HX0 := Lib.hid (HBd.out.trans (hb9.mono (HLE.out _ HBd.out)))
      clear hb9
      obtain ⟨⟨c0, c1, c2⟩, ⟨d0, d1, d2⟩⟩ := HCELL.out x0 HX0.out
      repeat
        first
        | (first | with_reducible refine sp0 (fun K hK => ?_) | with_reducible refine sp1 (fun K hK => ?_) | with_reducible refine sp2 (fun K hK => ?_) | with_reducible refine sp3 (fun K hK => ?_) | with_reducible refine sp4 (fun K hK => ?_)
           go_simp
           first
           | (with_reducible refine hK _ _ ?_; clear hK K)
           | (with_reducible apply Exists.intro
              refine ⟨fun x hx => ?_, hK _ _ ?_⟩
              first
                | (with_reducible exact rfl)
                | (have y0 := keepc hx c0; have y1 := keepc hx c1; have y2 := keepc hx c2; have y3 := keepc hx d0; have y4 := keepc hx d1; have y5 := keepc hx d2; go_simp; done)
                | (have y0 := keepc hx c0; have y1 := keepc hx c1; have y2 := keepc hx c2; have y3 := keepc hx d0; have y4 := keepc hx d1; have y5 := keepc hx d2; go_simp; with_reducible exact rfl)
              clear hK K))
        | (first | with_reducible refine sk0 ?_ (fun K hK => ?_) | with_reducible refine sk1 ?_ (fun K hK => ?_) | with_reducible refine sk2 ?_ (fun K hK => ?_) | with_reducible refine sk3 ?_ (fun K hK => ?_) | with_reducible refine sk4 ?_ (fun K hK => ?_)
           rfl
           go_simp
           with_reducible refine hK _ _ ?_
           clear hK K)
      first | with_reducible refine sc0 (fun K hK => ?_) | with_reducible refine sc1 (fun K hK => ?_) | with_reducible refine sc2 (fun K hK => ?_) | with_reducible refine sc3 (fun K hK => ?_) | with_reducible refine sc4 (fun K hK => ?_)
      go_simp
      refine (HP.out _ HX0.out).mono ?_
      clear c0 c1 c2 d0 d1 d2
      rintro e x1 ⟨rfl, hb9⟩
      refine ⟨hb9, hK _ _ ?_⟩
      clear hK K
      have HX1 := Lib.hid (HX0.out.trans (hb9.mono (HLE.out _ HX0.out)))
      clear hb9
      obtain ⟨⟨c0, c1, c2⟩, ⟨d0, d1, d2⟩⟩ := HCELL.out x1 HX1.out
      repeat
        first
        | (first | with_reducible refine sp0 (fun K hK => ?_) | with_reducible refine sp1 (fun K hK => ?_) | with_reducible refine sp2 (fun K hK => ?_) | with_reducible refine sp3 (fun K hK => ?_) | with_reducible refine sp4 (fun K hK => ?_)
           go_simp
           first
           | (with_reducible refine hK _ _ ?_; clear hK K)
           | (with_reducible apply Exists.intro
              refine ⟨fun x hx => ?_, hK _ _ ?_⟩
              first
                | (with_reducible exact rfl)
                | (have y0 := keepc hx c0; have y1 := keepc hx c1; have y2 := keepc hx c2; have y3 := keepc hx d0; have y4 := keepc hx d1; have y5 := keepc hx d2; go_simp; done)
                | (have y0 := keepc hx c0; have y1 := keepc hx c1; have y2 := keepc hx c2; have y3 := keepc hx d0; have y4 := keepc hx d1; have y5 := keepc hx d2; go_simp; with_reducible exact rfl)
              clear hK K))
        | (first | with_reducible refine sk0 ?_ (fun K hK => ?_) | with_reducible refine sk1 ?_ (fun K hK => ?_) | with_reducible refine sk2 ?_ (fun K hK => ?_) | with_reducible refine sk3 ?_ (fun K hK => ?_) | with_reducible refine sk4 ?_ (fun K hK => ?_)
           rfl
           go_simp
           with_reducible refine hK _ _ ?_
           clear hK K)
      first | with_reducible refine sc0 (fun K hK => ?_) | with_reducible refine sc1 (fun K hK => ?_) | with_reducible refine sc2 (fun K hK => ?_) | with_reducible refine sc3 (fun K hK => ?_) | with_reducible refine sc4 (fun K hK => ?_)
      go_simp
      refine (HWAK.out _ HX1.out).mono ?_
      clear c0 c1 c2 d0 d1 d2
      rintro e x2 ⟨rfl, hb9⟩
      refine ⟨hb9, hK _ _ ?_⟩
      clear hK K
      have HX2 := Lib.hid (HX1.out.trans (hb9.mono (HLE.out _ HX1.out)))
      clear hb9
      repeat
        first
        | (first | with_reducible refine sp0 (fun K hK => ?_) | with_reducible refine sp1 (fun K hK => ?_) | with_reducible refine sp2 (fun K hK => ?_) | with_reducible refine sp3 (fun K hK => ?_) | with_reducible refine sp4 (fun K hK => ?_)
           go_simp
           first
           | (with_reducible refine hK _ _ ?_; clear hK K)
           | (with_reducible apply Exists.intro
              refine ⟨fun x hx => ?_, hK _ _ ?_⟩
              first
                | (with_reducible exact rfl)
              clear hK K))
        | (first | with_reducible refine sk0 ?_ (fun K hK => ?_) | with_reducible refine sk1 ?_ (fun K hK => ?_) | with_reducible refine sk2 ?_ (fun K hK => ?_) | with_reducible refine sk3 ?_ (fun K hK => ?_) | with_reducible refine sk4 ?_ (fun K hK => ?_)
           rfl
           go_simp
           with_reducible refine hK _ _ ?_
           clear hK K)
      with_reducible refine seq_nil ?_
      go_wp2_with fail
      go_ret
      exact ⟨rfl, HB3.out.tr (HB4.out.tr HX2.out (Nat.le_refl _)) (Nat.le_refl _)⟩
    | true =>
      simp only [Bool.true_and] at HF
      cases n
      all_goals
        refine wp_region_seq [(0, false), (0, false), (1, false), (1, false), (0, true), (0, true), (0, false), (0, false), (0, false), (0, true), (0, false), (0, false), (0, false), (0, true), (0, false), (0, false)] (by kernel_rfl) (by kernel_rfl) (by kernel_rfl) (fun _ _ _ d _ h => by cases d <;> exact h) ?_
        repeat
          first
          | (first | with_reducible refine sp0 (fun K hK => ?_) | with_reducible refine sp1 (fun K hK => ?_) | with_reducible refine sp2 (fun K hK => ?_) | with_reducible refine sp3 (fun K hK => ?_) | with_reducible refine sp4 (fun K hK => ?_)
             go_simp
             first
             | (with_reducible refine hK _ _ ?_; clear hK K)
             | (with_reducible apply Exists.intro
                refine ⟨fun x hx => ?_, hK _ _ ?_⟩
                first
                  | (with_reducible exact rfl)
                  | (have y0 := keepc hx c0; have y1 := keepc hx c1; have y2 := keepc hx c2; have y3 := keepc hx d0; have y4 := keepc hx d1; have y5 := keepc hx d2; go_simp; done)
                  | (have y0 := keepc hx c0; have y1 := keepc hx c1; have y2 := keepc hx c2; have y3 := keepc hx d0; have y4 := keepc hx d1; have y5 := keepc hx d2; go_simp; with_reducible exact rfl)
                clear hK K))
          | (first | with_reducible refine sk0 ?_ (fun K hK => ?_) | with_reducible refine sk1 ?_ (fun K hK => ?_) | with_reducible refine sk2 ?_ (fun K hK => ?_) | with_reducible refine sk3 ?_ (fun K hK => ?_) | with_reducible refine sk4 ?_ (fun K hK => ?_)
             rfl
             go_simp
             with_reducible refine hK _ _ ?_
             clear hK K)
        first | with_reducible refine sc0 (fun K hK => ?_) | with_reducible refine sc1 (fun K hK => ?_) | with_reducible refine sc2 (fun K hK => ?_) | with_reducible refine sc3 (fun K hK => ?_) | with_reducible refine sc4 (fun K hK => ?_)
        go_simp
        refine (HF.out _ HBd.out).mono ?_
        clear c0 c1 c2 d0 d1 d2
        rintro e x0 ⟨rfl, hb9⟩
        refine ⟨hb9, hK _ _ ?_⟩
        clear hK K
        have HX0 := Lib.hid (HBd.out.trans (hb9.mono (HLE.out _ HBd.out)))
        clear hb9
        obtain ⟨⟨c0, c1, c2⟩, ⟨d0, d1, d2⟩⟩ := HCELL.out x0 HX0.out
        repeat
          first
          | (first | with_reducible refine sp0 (fun K hK => ?_) | with_reducible refine sp1 (fun K hK => ?_) | with_reducible refine sp2 (fun K hK => ?_) | with_reducible refine sp3 (fun K hK => ?_) | with_reducible refine sp4 (fun K hK => ?_)
             go_simp
             first
             | (with_reducible refine hK _ _ ?_; clear hK K)
             | (with_reducible apply Exists.intro
                refine ⟨fun x hx => ?_, hK _ _ ?_⟩
                first
                  | (with_reducible exact rfl)
                  | (have y0 := keepc hx c0; have y1 := keepc hx c1; have y2 := keepc hx c2; have y3 := keepc hx d0; have y4 := keepc hx d1; have y5 := keepc hx d2; go_simp; done)
                  | (have y0 := keepc hx c0; have y1 := keepc hx c1; have y2 := keepc hx c2; have y3 := keepc hx d0; have y4 := keepc hx d1; have y5 := keepc hx d2; go_simp; with_reducible exact rfl)
                clear hK K))
          | (first | with_reducible refine sk0 ?_ (fun K hK => ?_) | with_reducible refine sk1 ?_ (fun K hK => ?_) | with_reducible refine sk2 ?_ (fun K hK => ?_) | with_reducible refine sk3 ?_ (fun K hK => ?_) | with_reducible refine sk4 ?_ (fun K hK => ?_)
             rfl
             go_simp
             with_reducible refine hK _ _ ?_
             clear hK K)
        first | with_reducible refine sc0 (fun K hK => ?_) | with_reducible refine sc1 (fun K hK => ?_) | with_reducible refine sc2 (fun K hK => ?_) | with_reducible refine sc3 (fun K hK => ?_) | with_reducible refine sc4 (fun K hK => ?_)
        go_simp
        refine (HP.out _ HX0.out).mono ?_
        clear c0 c1 c2 d0 d1 d2
        rintro e x1 ⟨rfl, hb9⟩
        refine ⟨hb9, hK _ _ ?_⟩
        clear hK K
        have HX1 := Lib.hid (HX0.out.trans (hb9.mono (HLE.out _ HX0.out)))
        clear hb9
        obtain ⟨⟨c0, c1, c2⟩, ⟨d0, d1, d2⟩⟩ := HCELL.out x1 HX1.out
        repeat
          first
          | (first | with_reducible refine sp0 (fun K hK => ?_) | with_reducible refine sp1 (fun K hK => ?_) | with_reducible refine sp2 (fun K hK => ?_) | with_reducible refine sp3 (fun K hK => ?_) | with_reducible refine sp4 (fun K hK => ?_)
             go_simp
             first
             | (with_reducible refine hK _ _ ?_; clear hK K)
             | (with_reducible apply Exists.intro
                refine ⟨fun x hx => ?_, hK _ _ ?_⟩
                first
                  | (with_reducible exact rfl)
                  | (have y0 := keepc hx c0; have y1 := keepc hx c1; have y2 := keepc hx c2; have y3 := keepc hx d0; have y4 := keepc hx d1; have y5 := keepc hx d2; go_simp; done)
                  | (have y0 := keepc hx c0; have y1 := keepc hx c1; have y2 := keepc hx c2; have y3 := keepc hx d0; have y4 := keepc hx d1; have y5 := keepc hx d2; go_simp; with_reducible exact rfl)
                clear hK K))
          | (first | with_reducible refine sk0 ?_ (fun K hK => ?_) | with_reducible refine sk1 ?_ (fun K hK => ?_) | with_reducible refine sk2 ?_ (fun K hK => ?_) | with_reducible refine sk3 ?_ (fun K hK => ?_) | with_reducible refine sk4 ?_ (fun K hK => ?_)
             rfl
             go_simp
             with_reducible refine hK _ _ ?_
             clear hK K)
        first | with_reducible refine sc0 (fun K hK => ?_) | with_reducible refine sc1 (fun K hK => ?_) | with_reducible refine sc2 (fun K hK => ?_) | with_reducible refine sc3 (fun K hK => ?_) | with_reducible refine sc4 (fun K hK => ?_)
        go_simp
        refine (HNG.out _ HX1.out).mono ?_
        clear c0 c1 c2 d0 d1 d2
        rintro e x2 ⟨rfl, hb9⟩
        refine ⟨hb9, hK _ _ ?_⟩
        clear hK K
        have HX2 := Lib.hid (HX1.out.trans (hb9.mono (HLE.out _ HX1.out)))
        clear hb9
        obtain ⟨⟨c0, c1, c2⟩, ⟨d0, d1, d2⟩⟩ := HCELL.out x2 HX2.out
        repeat
          first
          | (first | with_reducible refine sp0 (fun K hK => ?_) | with_reducible refine sp1 (fun K hK => ?_) | with_reducible refine sp2 (fun K hK => ?_) | with_reducible refine sp3 (fun K hK => ?_) | with_reducible refine sp4 (fun K hK => ?_)
             go_simp
             first
             | (with_reducible refine hK _ _ ?_; clear hK K)
             | (with_reducible apply Exists.intro
                refine ⟨fun x hx => ?_, hK _ _ ?_⟩
                first
                  | (with_reducible exact rfl)
                  | (have y0 := keepc hx c0; have y1 := keepc hx c1; have y2 := keepc hx c2; have y3 := keepc hx d0; have y4 := keepc hx d1; have y5 := keepc hx d2; go_simp; done)
                  | (have y0 := keepc hx c0; have y1 := keepc hx c1; have y2 := keepc hx c2; have y3 := keepc hx d0; have y4 := keepc hx d1; have y5 := keepc hx d2; go_simp; with_reducible exact rfl)
                clear hK K))
          | (first | with_reducible refine sk0 ?_ (fun K hK => ?_) | with_reducible refine sk1 ?_ (fun K hK => ?_) | with_reducible refine sk2 ?_ (fun K hK => ?_) | with_reducible refine sk3 ?_ (fun K hK => ?_) | with_reducible refine sk4 ?_ (fun K hK => ?_)
             rfl
             go_simp
             with_reducible refine hK _ _ ?_
             clear hK K)
        first | with_reducible refine sc0 (fun K hK => ?_) | with_reducible refine sc1 (fun K hK => ?_) | with_reducible refine sc2 (fun K hK => ?_) | with_reducible refine sc3 (fun K hK => ?_) | with_reducible refine sc4 (fun K hK => ?_)
        go_simp
        refine (HWAK.out _ HX2.out).mono ?_
        clear c0 c1 c2 d0 d1 d2
        rintro e x3 ⟨rfl, hb9⟩
        refine ⟨hb9, hK _ _ ?_⟩
        clear hK K
        have HX3 := Lib.hid (HX2.out.trans (hb9.mono (HLE.out _ HX2.out)))
        clear hb9
        repeat
          first
          | (first | with_reducible refine sp0 (fun K hK => ?_) | with_reducible refine sp1 (fun K hK => ?_) | with_reducible refine sp2 (fun K hK => ?_) | with_reducible refine sp3 (fun K hK => ?_) | with_reducible refine sp4 (fun K hK => ?_)
             go_simp
             first
             | (with_reducible refine hK _ _ ?_; clear hK K)
             | (with_reducible apply Exists.intro
                refine ⟨fun x hx => ?_, hK _ _ ?_⟩
                first
                  | (with_reducible exact rfl)
                clear hK K))
          | (first | with_reducible refine sk0 ?_ (fun K hK => ?_) | with_reducible refine sk1 ?_ (fun K hK => ?_) | with_reducible refine sk2 ?_ (fun K hK => ?_) | with_reducible refine sk3 ?_ (fun K hK => ?_) | with_reducible refine sk4 ?_ (fun K hK => ?_)
             rfl
             go_simp
             with_reducible refine hK _ _ ?_
             clear hK K)
        with_reducible refine seq_nil ?_
        go_wp2_with fail
        go_ret
        exact ⟨rfl, HB3.out.tr (HB4.out.tr HX3.out (Nat.le_refl _)) (Nat.le_refl _)⟩
end Go.Proofs.Ytafekidkikfpcaa

/- The page's Side and Sub of stage 10, walked. -/
import Derived.Test.YtafekidkikfpcaaSbY
import Derived.Test.YtafekidkikfpcaaPrR
import Derived.Test.YtafekidkikfpcaaPrT
import Derived.Test.YtafekidkikfpcaaSeqA
namespace Go.Proofs.Ytafekidkikfpcaa
open Go Go.RowKit
open Tp (T Md)

namespace Tp
theorem depth_pos (t : T) : 0 < depth t := by cases t; simp [depth]
theorem depth_kid : ∀ (l : List T) (k : Nat) (h : k < l.length), depth l[k] ≤ depths l
  | [], k, h => by simp at h
  | t :: r, 0, _ => by simp [depths]; omega
  | t :: r, k + 1, h => by have := depth_kid r k (by simpa using h); simp [depths]; omega
theorem depth_kids (t : T) (k : Nat) (h : k < t.kids.length) : depth t.kids[k] + 1 ≤ depth t := by
  cases t with
  | mk q n l => have := depth_kid l k h; simp only [depth, T.kids] at this ⊢; omega
theorem depths_dyns : ∀ n, depths (dyns n) ≤ 1
  | 0 => by simp [dyns, depths]
  | n + 1 => by
    have := depths_dyns n
    simp only [dyns, List.replicate_succ, depths] at this ⊢
    have h : depth (.mk 5 0 []) = 1 := by simp [depth, depths]
    omega
theorem depth_gnd (t : T) : depth (gnd t) ≤ 2 := by have := depths_dyns t.kids.length; unfold gnd; simp only [depth]; omega
end Tp
/-- What falls at every call of the page's Side and Sub. -/
def sms (t u : T) : Nat := 2 * (Tp.depth t + Tp.depth u) + (if u.kind = 5 then 3 else 0)
theorem sms_kid {t u : T} (k j : Nat) (h : k < t.kids.length) (h' : j < u.kids.length) : sms t.kids[k] u.kids[j] < sms t u ∧ sms u.kids[j] t.kids[k] < sms t u := by
  have h1 := Tp.depth_kids t k h
  have h2 := Tp.depth_kids u j h'
  unfold sms
  constructor <;> split <;> split <;> omega
theorem sms_gnd {t u : T} (h : Tp.hasG t = true) (h5 : u.kind = 5) : sms t (Tp.gnd t) < sms t u := by
  have h1 := Tp.depth_gnd t
  have h2 := Tp.depth_pos u
  have h3 : ¬ (Tp.gnd t).kind = 5 := by
    have : (Tp.gnd t).kind = t.kind := rfl
    rw [this]; intro h6
    unfold Tp.hasG at h; rw [decide_eq_true h6] at h; simp at h
  unfold sms; rw [if_neg h3, if_pos h5]; omega
/-- A kid in memory, by letters. -/
theorem kid_tv {n : Nat} {w : World} {t : T} {a : Option Addr} {cap : Nat} (h : TyAt (LT n) w t a cap) (hn : n ≤ w.heap.size) {k : Nat} (hk : k < t.kids.length) :
    ∃ b o xa xcap xk xn xm, a = some ⟨b, o, none⟩ ∧ b < n ∧ TV t.kids[k] xk xn xm ∧ (∀ x, Below n w x → TyAt (LT x.heap.size) x t.kids[k] xa xcap) ∧ (∀ x, Below n w x → x.cell? ⟨b, o + k * 3, none⟩ = some (.int .i64 xk) ∧ x.cell? ⟨b, o + k * 3 + 1, none⟩ = some (.int .i64 xn) ∧ x.cell? ⟨b, o + k * 3 + 2, none⟩ = some (.slice xa xm xcap)) := by
  obtain ⟨b, o, xa, xcap, rfl, hbn, hx, x0, x1, x2⟩ := kid_in h (Below.refl n w) hk
  obtain ⟨xk, xn, xm, hv⟩ := TV.mk t.kids[k]
  rw [hv.1] at x0; rw [hv.2.1] at x1; rw [hv.2.2] at x2
  refine ⟨b, o, xa, xcap, xk, xn, xm, rfl, hbn, hv, fun x hb => hx.below hb (fun _ h => h) (fun b h => Nat.lt_of_lt_of_le h (Nat.le_trans hn hb.size)), fun x hb => ⟨?_, ?_, ?_⟩⟩
  · exact (World.cell?_of_block (a := ⟨b, o + k * 3, none⟩) (hb.block b hbn)).trans x0
  · exact (World.cell?_of_block (a := ⟨b, o + k * 3 + 1, none⟩) (hb.block b hbn)).trans x1
  · exact (World.cell?_of_block (a := ⟨b, o + k * 3 + 2, none⟩) (hb.block b hbn)).trans x2
/-- What the page asks, in one place. -/
theorem page_sub {t u : T} (ht : Tp.right t = true) (hu : Tp.right u = true) (m : Md) : (leafB t u = true → Tp.sd m t u = true) ∧ (leafB t u = false → likeB t u = false → (m = .n → ¬ t.kind = 5) → ¬ u.kind = 5 → Tp.sd m t u = false) ∧
    (likeB t u = true → t.kids.length = u.kids.length ∧ (t.kind = 9 → t.kids.length = 2 ∧ ∀ (h : 0 < t.kids.length) (h' : 0 < u.kids.length) (h1 : 1 < t.kids.length) (h1' : 1 < u.kids.length), Tp.sd m t u = (Tp.sd m.flip u.kids[0] t.kids[0] && Tp.sd m t.kids[1] u.kids[1])) ∧ (¬ t.kind = 9 → Tp.sd m t u = sds m t.kids u.kids)) ∧
    (¬ t.kind = 5 → u.kind = 5 → m ≠ .p → Tp.sd m t u = (Tp.hasG t && (decide (t.kids.length = 0) || Tp.sd m t (Tp.gnd t)))) ∧ (t.kind = 5 → u.kind = 5 → leafB t u = true) := by
  refine ⟨fun h => side_leaf h ht hu m, fun h1 h2 hn h5 => side_no ht hu h1 h2 m hn h5, fun h => ?_, fun h5 h5' hm => side_gnd ht hu h5 h5' m hm, fun h5 h5' => ?_⟩
  · obtain ⟨h1, h2, h3, _, _, _⟩ := side_like ht hu h
    refine ⟨h1, fun h9 => ?_, fun h9 => h3 h9 m⟩
    obtain ⟨x1, x2, y1, y2, e1, e2, e3⟩ := h2 h9
    refine ⟨by rw [e1]; rfl, fun q0 q0' q1 q1' => ?_⟩
    rw [e3 m]
    simp only [e1, e2, List.getElem_cons_zero, List.getElem_cons_succ]
  · cases t; cases u
    simp only [Tp.T.kind] at h5 h5'
    subst h5 h5'
    obtain ⟨rfl, rfl⟩ := Tp.right_dyn ht
    obtain ⟨rfl, rfl⟩ := Tp.right_dyn hu
    simp [leafB, Tp.T.kids, Tp.T.kind, Tp.T.num]

set_option maxRecDepth 100000 in
set_option maxHeartbeats 8000000 in
theorem rsub_any : ∀ (n : Nat) (t u : T) (a : Option Addr) (cap : Nat) (a' : Option Addr) (cap' : Nat) (w : World), sms t u < n → Tp.right t = true → Tp.right u = true → TyAt (LT w.heap.size) w t a cap → TyAt (LT w.heap.size) w u a' cap' →
    Calls Try.prog 16 #[tv t a cap, tv u a' cap'] w fun e w' => e = .returned (.bool (Tp.sd Md.s t u)) ∧ Below w.heap.size w w' := by
  intro n
  induction n with
  | zero => intro t u a cap a' cap' w h; omega
  | succ n ih =>
    intro t u a cap a' cap' w hn hrt hru hty hty'
    have hm10 : (t.kids.length : Int) ≤ 9223372036854775807 := by have h1 := hty.2.2.1; have h2 := hty.2.2.2.1; unfold maxLen at h2; omega
    have HN := Lib.hid hn; have HTY := Lib.hid hty; have HTY' := Lib.hid hty'; have IH := Lib.hid ih; have HRT := Lib.hid hrt; have HRU := Lib.hid hru
    obtain ⟨kk, nn, m, hv⟩ := TV.mk t
    obtain ⟨kk', nn', m', hv'⟩ := TV.mk u
    have hlf := fun x => rleaf_any (a := a) (c := cap) (a' := a') (c' := cap') x hv hv'
    have hlk := fun x => rlike_any (a := a) (c := cap) (a' := a') (c' := cap') x hv hv'
    rw [tv_of hv, tv_of hv']
    rw [hv.2.2] at hm10
    obtain ⟨W2, hW2⟩ : ∃ W2, (w.alloc (.cells #[.int .i64 kk, .int .i64 nn, .slice a m cap] 24)).alloc (.cells #[.int .i64 kk', .int .i64 nn', .slice a' m' cap'] 24) = W2 := ⟨_, rfl⟩
    obtain ⟨hb2, hs2, hcell⟩ := box_pair W2 hW2
    obtain ⟨⟨c0, c1, c2⟩, ⟨d0, d1, d2⟩⟩ := hcell W2 (Below.refl _ _)
    have HM := Lib.hid hv.2.2; have HM' := Lib.hid hv'.2.2; have HB2 := Lib.hid hb2; have HS2 := Lib.hid hs2; have HCELL := Lib.hid hcell; have HW2 := Lib.hid hW2; have HLF := Lib.hid hlf; have HLK := Lib.hid hlk
    have HV := Lib.hid hv; have HV' := Lib.hid hv'
    clear hn ih hlf hlk hb2 hs2 hcell hW2
    obtain ⟨q1, q2, q3, q4, q5⟩ := page_sub hrt hru .s
    rw [hv.1, hv.2.2, hv'.1] at q4; rw [hv.1, hv'.1] at q2 q5; rw [hv.1] at q3
    obtain ⟨res, hres⟩ : ∃ res, Tp.sd .s t u = res := ⟨_, rfl⟩
    rw [hres] at q1 q2 q3 q4 ⊢
    have Q1 := Lib.hid q1; have Q2 := Lib.hid q2; have Q3 := Lib.hid q3; have Q4 := Lib.hid q4; have Q5 := Lib.hid q5
    clear q1 q2 q3 q4 q5 hrt hru hty hty' hv hv' hres
    go_enter Try.func16, Try.ntmps16
    go_upto_region 1 with fail
    rw [HW2.out]
    obtain ⟨lf_, hlf_⟩ : ∃ b, leafB t u = b := ⟨_, rfl⟩
    rw [hlf_] at HLF Q1 Q2 Q5
    cases lf_ with
    | true =>
      have HRES := Lib.hid (Q1.out rfl)
      clear hlf_
      go_wp2_with (go_at_call 29; refine (HLF.out _).mono ?_; clear c0 c1 c2 d0 d1 d2; rintro e w3 ⟨rfl, hb⟩; have HB3 := Lib.hid (show Below (w.heap.size + 1 + 1) W2 w3 from hb.mono (Nat.le_of_eq HS2.out.symm)); clear hb)
      go_ret
      exact ⟨ret_boolT HRES.out.symm, HB2.out.trans (HB3.out.mono (by omega))⟩
    | false =>
      by_cases h6 : kk' = 5
      · have g6 : (kk' == 5) = true := by simp [h6]
        have h5 : ¬ kk = 5 := fun h5 => by have := Q5.out h5 h6; cases this
        have HQ4 := Lib.hid (Q4.out h5 h6 (by intro h; cases h)); have HK5 := Lib.hid h6
        clear h5 h6 hlf_
        go_upto_region 4 with (go_at_call 29; refine (HLF.out _).mono ?_; clear c0 c1 c2 d0 d1 d2; rintro e w3 ⟨rfl, hb⟩; have HB3 := Lib.hid (show Below (w.heap.size + 1 + 1) W2 w3 from hb.mono (Nat.le_of_eq HS2.out.symm)); clear hb; obtain ⟨⟨c0, c1, c2⟩, ⟨d0, d1, d2⟩⟩ := HCELL.out _ HB3.out)
        go_wp2_with fail
        have HB03 := Lib.hid (HB2.out.trans (HB3.out.mono (by omega)))
        have HT3 := Lib.hid (ty_later HTY.out HB03.out)
        refine (rgrd_any HV.out HRT.out HT3.out).mono ?_
        rintro e w4 ⟨kh, nh, mh, ah, ch, hvh, rfl, tyh, hb⟩
        obtain ⟨gg, hgg⟩ : ∃ z, Tp.hasG t = z := ⟨_, rfl⟩
        have hq4 := HQ4.out
        rw [hgg] at hq4
        rw [hgg]
        have HB4 := Lib.hid (show Below (w.heap.size + 1 + 1) W2 w4 from HB3.out.trans (hb.mono (by have := HB3.out.size; have := HS2.out; omega)))
        clear c0 c1 c2 d0 d1 d2
        obtain ⟨W5, hW5⟩ : ∃ W, w4.alloc (.cells #[.int .i64 kh, .int .i64 nh, .slice ah mh ch] 24) = W := ⟨_, rfl⟩
        obtain ⟨bg, hb5⟩ := box_new hvh (ty_same (fun _ _ => rfl) (fun _ h => h.2) tyh) hW5
        have HB5 := Lib.hid (show Below (w.heap.size + 1 + 1) W2 W5 from HB4.out.trans (hb5.mono (by have := HB4.out.size; have := HS2.out; omega)))
        have BG := Lib.hid bg; have HW5 := Lib.hid hW5; have HGG := Lib.hid hgg; have HQ := Lib.hid hq4
        clear hvh tyh hb hgg hq4 bg hb5 hW5
        go_upto_region 5 with fail
        rw [HW5.out]
        obtain ⟨⟨c0, c1, c2⟩, ⟨d0, d1, d2⟩⟩ := HCELL.out _ HB5.out
        obtain ⟨g0, g1, g2⟩ := BG.out.cells
        have HBW5 := Lib.hid (HB2.out.trans (HB5.out.mono (by omega)))
        cases gg with
        | false =>
          go_wp2_with fail
          go_ret
          exact ⟨ret_boolT (by rw [HQ.out]; rfl), HBW5.out⟩
        | true =>
          by_cases hm0 : m = 0
          · have gm : ((m : Int) == 0) = true := by simp [hm0]
            have HM0 := Lib.hid hm0; clear hm0
            go_wp2_with fail
            go_ret
            exact ⟨ret_boolT (by rw [HQ.out, decide_eq_true HM0.out]; rfl), HBW5.out⟩
          · have gm : ((m : Int) == 0) = false := by simp; omega
            have HM0 := Lib.hid hm0; clear hm0
            have hgr : Tp.grd t = Tp.gnd t := by unfold Tp.grd; rw [if_pos HGG.out]
            have hcall := IH.out t (Tp.gnd t) a cap ah ch W5 (by have := sms_gnd HGG.out (by rw [HV'.out.1]; exact HK5.out); have := HN.out; omega) HRT.out (Tp.gnd_right HGG.out) (ty_later HTY.out HBW5.out) (by rw [← hgr]; exact BG.out.ty)
            rw [tv_of HV.out, tv_of (hgr ▸ BG.out.says)] at hcall
            have HC := Lib.hid hcall; clear hcall hgr
            go_wp2_with (go_at_call 16; refine HC.out.mono ?_; clear c0 c1 c2 d0 d1 d2 g0 g1 g2; rintro e w6 ⟨rfl, hb⟩)
            go_ret
            exact ⟨ret_boolT (by rw [HQ.out, decide_eq_false HM0.out]; rfl), HBW5.out.tr hb (Nat.le_refl _)⟩
      · have g6 : (kk' == 5) = false := by simp [h6]
        have HNOL := Lib.hid (fun h => Q2.out rfl h (fun h => by cases h) h6)
        clear h6
        obtain ⟨lk_, hlk_⟩ : ∃ b, likeB t u = b := ⟨_, rfl⟩
        rw [hlk_] at HLK Q3 HNOL
        cases lk_ with
        | false =>
          have HRES := Lib.hid (HNOL.out rfl)
          clear hlk_ hlf_
          go_wp2_with (first | (go_at_call 29; refine (HLF.out _).mono ?_; clear c0 c1 c2 d0 d1 d2; rintro e w3 ⟨rfl, hb⟩; have HB3 := Lib.hid (show Below (w.heap.size + 1 + 1) W2 w3 from hb.mono (Nat.le_of_eq HS2.out.symm)); clear hb; obtain ⟨⟨c0, c1, c2⟩, ⟨d0, d1, d2⟩⟩ := HCELL.out _ HB3.out) | (go_at_call 31; refine (HLK.out _).mono ?_; clear c0 c1 c2 d0 d1 d2; rintro e w4 ⟨rfl, hb⟩; have HB4 := Lib.hid (show Below (w.heap.size + 1 + 1) W2 w4 from HB3.out.trans (hb.mono (by have := HB3.out.size; have := HS2.out; omega))); clear hb; obtain ⟨⟨c0, c1, c2⟩, ⟨d0, d1, d2⟩⟩ := HCELL.out _ HB4.out))
          go_ret
          exact ⟨ret_boolT HRES.out.symm, HB2.out.trans (HB4.out.mono (by omega))⟩
        | true =>
          obtain ⟨hlen, hf9, hl9⟩ := Q3.out rfl
          have hmm : m' = m := by rw [← HM.out, ← HM'.out, hlen]
          subst hmm
          have HF9 := Lib.hid hf9; have HL9 := Lib.hid hl9
          clear hlk_ hlf_ hlen hf9 hl9
          by_cases h9 : kk = 9
          · have g9 : (kk == 9) = true := by simp [h9]
            have H9 := Lib.hid h9; clear h9
            go_upto_region 9 with (first | (go_at_call 29; refine (HLF.out _).mono ?_; clear c0 c1 c2 d0 d1 d2; rintro e w3 ⟨rfl, hb⟩; have HB3 := Lib.hid (show Below (w.heap.size + 1 + 1) W2 w3 from hb.mono (Nat.le_of_eq HS2.out.symm)); clear hb; obtain ⟨⟨c0, c1, c2⟩, ⟨d0, d1, d2⟩⟩ := HCELL.out _ HB3.out) | (go_at_call 31; refine (HLK.out _).mono ?_; clear c0 c1 c2 d0 d1 d2; rintro e w4 ⟨rfl, hb⟩; have HB4 := Lib.hid (show Below (w.heap.size + 1 + 1) W2 w4 from HB3.out.trans (hb.mono (by have := HB3.out.size; have := HS2.out; omega))); clear hb; obtain ⟨⟨c0, c1, c2⟩, ⟨d0, d1, d2⟩⟩ := HCELL.out _ HB4.out))
            obtain ⟨h22, hf⟩ := HF9.out H9.out
            have hm2 : m' = 2 := by rw [← HM.out]; exact h22
            have l0 : 0 < t.kids.length := by omega
            have l1 : 1 < t.kids.length := by omega
            have l0' : 0 < u.kids.length := by rw [HM'.out]; omega
            have l1' : 1 < u.kids.length := by rw [HM'.out]; omega
            have hr := hf l0 l0' l1 l1'
            have hbw : Below w.heap.size w w4.drew := HB2.out.trans ((HB4.out.drew).mono (by omega))
            obtain ⟨b, o, xa, xcap, xk, xn, xm, rfl, hbn, hvx, htx, hcx⟩ := kid_tv HTY.out (Nat.le_refl _) l0
            obtain ⟨b2, o2, xa2, xcap2, xk2, xn2, xm2, he, -, hvx2, htx2, hcx2⟩ := kid_tv HTY.out (Nat.le_refl _) l1
            injection he with he; injection he with he1 he2; subst he1 he2
            obtain ⟨b', o', ya, ycap, yk, yn, ym, rfl, hbn', hvy, hty_, hcy⟩ := kid_tv HTY'.out (Nat.le_refl _) l0'
            obtain ⟨b3, o3, ya2, ycap2, yk2, yn2, ym2, he, -, hvy2, hty2, hcy2⟩ := kid_tv HTY'.out (Nat.le_refl _) l1'
            injection he with he; injection he with he1 he2; subst he1 he2
            have hc1 := fun x (h : Below w.heap.size w x) => IH.out u.kids[0] t.kids[0] ya ycap xa xcap x (by have := (sms_kid 0 0 l0 l0').2; have := HN.out; omega) (rights_at (kids_right HRU.out) 0 l0') (rights_at (kids_right HRT.out) 0 l0) (hty_ x h) (htx x h)
            have hc2 := fun x (h : Below w.heap.size w x) => IH.out t.kids[1] u.kids[1] xa2 xcap2 ya2 ycap2 x (by have := (sms_kid 1 1 l1 l1').1; have := HN.out; omega) (rights_at (kids_right HRT.out) 1 l1) (rights_at (kids_right HRU.out) 1 l1') (htx2 x h) (hty2 x h)
            have e1 := tv_of (a := xa) (c := xcap) hvx; have e2 := tv_of (a := xa2) (c := xcap2) hvx2; have e3 := tv_of (a := ya) (c := ycap) hvy; have e4 := tv_of (a := ya2) (c := ycap2) hvy2
            simp only [e1, e2, e3, e4] at hc1 hc2
            have hr' : res = (Tp.sd .s u.kids[0] t.kids[0] && Tp.sd .s t.kids[1] u.kids[1]) := hr
            obtain ⟨s1, hs1⟩ : ∃ z, Tp.sd .s u.kids[0] t.kids[0] = z := ⟨_, rfl⟩
            obtain ⟨s2, hs2⟩ : ∃ z, Tp.sd .s t.kids[1] u.kids[1] = z := ⟨_, rfl⟩
            rw [hs1] at hc1 hr'; rw [hs2] at hc2 hr'
            have HC1 := Lib.hid hc1; have HC2 := Lib.hid hc2; have HR := Lib.hid hr'
            have HCK := Lib.hid (fun x (h : Below w.heap.size w x) => (⟨hcx x h, hcx2 x h, hcy x h, hcy2 x h⟩ : _ ∧ _ ∧ _ ∧ _))
            have HWX := Lib.hid (fun x (h : Below w4.heap.size w4 x) => (show Below w.heap.size w x from HB2.out.trans ((HB4.out.trans (h.mono (by have := HB4.out.size; have := HS2.out; omega))).mono (by omega))))
            have HCELL4 := Lib.hid (fun x (h : Below w4.heap.size w4 x) => (⟨HCELL.out x (HB4.out.trans (h.mono (by have := HB4.out.size; have := HS2.out; omega))), HCK.out x (HWX.out x h)⟩ : _ ∧ _))
            have HLE := Lib.hid (fun x (h : Below w4.heap.size w4 x) => h.size)
            have HBd := Lib.hid (Below.refl w4.heap.size w4).drew
            simp only [Nat.zero_mul, Nat.add_zero, Nat.one_mul] at HCELL4
            have i0 : (0 : Int) < (m' : Int) := by omega
            have i1 : (1 : Int) < (m' : Int) := by omega
            clear hc1 hc2 hr hr' hf hs1 hs2 hcx hcx2 hcy hcy2 htx htx2 hty_ hty2 hvx hvx2 hvy hvy2 e1 e2 e3 e4 l0 l1 l0' l1' h22 hbn hbn' hbw c0 c1 c2 d0 d1 d2
            subst hm2
            obtain ⟨⟨⟨c0, c1, c2⟩, ⟨d0, d1, d2⟩⟩, ⟨x0, x1, x2⟩, ⟨p0, p1, p2⟩, ⟨r0, r1, r2⟩, ⟨z0, z1, z2⟩⟩ := HCELL4.out _ HBd.out
            cases s1 with
            | false =>
              refine wp_region_seq [(0, false), (0, false), (0, false), (0, false), (0, false), (0, false), (0, false), (0, false), (0, true), (0, false), (0, false), (0, false), (0, false), (0, false), (0, false), (0, false), (0, false), (0, false), (0, true), (0, false), (0, false)] (by kernel_rfl) (by kernel_rfl) (by kernel_rfl) (fun _ _ _ d _ h => by cases d <;> exact h) ?_
              repeat
                first
                | (first | with_reducible refine sp0 (fun K hK => ?_) | with_reducible refine sp1 (fun K hK => ?_) | with_reducible refine sp2 (fun K hK => ?_) | with_reducible refine sp3 (fun K hK => ?_) | with_reducible refine sp4 (fun K hK => ?_)
                   go_simp
                   first
                   | (with_reducible refine hK _ _ ?_; clear hK K)
                   | (with_reducible apply Exists.intro
                      refine ⟨fun x hx => ?_, hK _ _ ?_⟩
                      first
                        | (with_reducible exact rfl)
                        | (have y0 := keepc hx c0; have y1 := keepc hx c1; have y2 := keepc hx c2; have y3 := keepc hx d0; have y4 := keepc hx d1; have y5 := keepc hx d2; have y6 := keepc hx x0; have y7 := keepc hx x1; have y8 := keepc hx x2; have y9 := keepc hx p0; have y10 := keepc hx p1; have y11 := keepc hx p2; have y12 := keepc hx r0; have y13 := keepc hx r1; have y14 := keepc hx r2; have y15 := keepc hx z0; have y16 := keepc hx z1; have y17 := keepc hx z2; go_simp; done)
                        | (have y0 := keepc hx c0; have y1 := keepc hx c1; have y2 := keepc hx c2; have y3 := keepc hx d0; have y4 := keepc hx d1; have y5 := keepc hx d2; have y6 := keepc hx x0; have y7 := keepc hx x1; have y8 := keepc hx x2; have y9 := keepc hx p0; have y10 := keepc hx p1; have y11 := keepc hx p2; have y12 := keepc hx r0; have y13 := keepc hx r1; have y14 := keepc hx r2; have y15 := keepc hx z0; have y16 := keepc hx z1; have y17 := keepc hx z2; go_simp; with_reducible exact rfl)
                      clear hK K))
                | (first | with_reducible refine sk0 ?_ (fun K hK => ?_) | with_reducible refine sk1 ?_ (fun K hK => ?_) | with_reducible refine sk2 ?_ (fun K hK => ?_) | with_reducible refine sk3 ?_ (fun K hK => ?_) | with_reducible refine sk4 ?_ (fun K hK => ?_)
                   rfl
                   go_simp
                   with_reducible refine hK _ _ ?_
                   clear hK K)
              first | with_reducible refine sc0 (fun K hK => ?_) | with_reducible refine sc1 (fun K hK => ?_) | with_reducible refine sc2 (fun K hK => ?_) | with_reducible refine sc3 (fun K hK => ?_) | with_reducible refine sc4 (fun K hK => ?_)
              go_simp
              refine (HC1.out _ (HWX.out _ HBd.out)).mono ?_
              clear c0 c1 c2 d0 d1 d2 x0 x1 x2 p0 p1 p2 r0 r1 r2 z0 z1 z2
              rintro e v1 ⟨rfl, hb9⟩
              refine ⟨hb9, hK _ _ ?_⟩
              clear hK K
              have HV1 := Lib.hid (HBd.out.trans (hb9.mono (HLE.out _ HBd.out)))
              clear hb9
              obtain ⟨⟨⟨c0, c1, c2⟩, ⟨d0, d1, d2⟩⟩, ⟨x0, x1, x2⟩, ⟨p0, p1, p2⟩, ⟨r0, r1, r2⟩, ⟨z0, z1, z2⟩⟩ := HCELL4.out v1 HV1.out
              repeat
                first
                | (first | with_reducible refine sp0 (fun K hK => ?_) | with_reducible refine sp1 (fun K hK => ?_) | with_reducible refine sp2 (fun K hK => ?_) | with_reducible refine sp3 (fun K hK => ?_) | with_reducible refine sp4 (fun K hK => ?_)
                   go_simp
                   first
                   | (with_reducible refine hK _ _ ?_; clear hK K)
                   | (with_reducible apply Exists.intro
                      refine ⟨fun x hx => ?_, hK _ _ ?_⟩
                      first
                        | (with_reducible exact rfl)
                        | (have y0 := keepc hx c0; have y1 := keepc hx c1; have y2 := keepc hx c2; have y3 := keepc hx d0; have y4 := keepc hx d1; have y5 := keepc hx d2; have y6 := keepc hx x0; have y7 := keepc hx x1; have y8 := keepc hx x2; have y9 := keepc hx p0; have y10 := keepc hx p1; have y11 := keepc hx p2; have y12 := keepc hx r0; have y13 := keepc hx r1; have y14 := keepc hx r2; have y15 := keepc hx z0; have y16 := keepc hx z1; have y17 := keepc hx z2; go_simp; done)
                        | (have y0 := keepc hx c0; have y1 := keepc hx c1; have y2 := keepc hx c2; have y3 := keepc hx d0; have y4 := keepc hx d1; have y5 := keepc hx d2; have y6 := keepc hx x0; have y7 := keepc hx x1; have y8 := keepc hx x2; have y9 := keepc hx p0; have y10 := keepc hx p1; have y11 := keepc hx p2; have y12 := keepc hx r0; have y13 := keepc hx r1; have y14 := keepc hx r2; have y15 := keepc hx z0; have y16 := keepc hx z1; have y17 := keepc hx z2; go_simp; with_reducible exact rfl)
                      clear hK K))
                | (first | with_reducible refine sk0 ?_ (fun K hK => ?_) | with_reducible refine sk1 ?_ (fun K hK => ?_) | with_reducible refine sk2 ?_ (fun K hK => ?_) | with_reducible refine sk3 ?_ (fun K hK => ?_) | with_reducible refine sk4 ?_ (fun K hK => ?_)
                   rfl
                   go_simp
                   with_reducible refine hK _ _ ?_
                   clear hK K)
              with_reducible refine seq_nil ?_
              clear c0 c1 c2 d0 d1 d2 x0 x1 x2 p0 p1 p2 r0 r1 r2 z0 z1 z2
              go_wp2_with fail
              go_ret
              exact ⟨ret_boolT (by rw [HR.out]; rfl), HWX.out _ HV1.out⟩
            | true =>
              refine wp_region_seq [(0, false), (0, false), (0, false), (0, false), (0, false), (0, false), (0, false), (0, false), (0, true), (0, false), (0, false), (0, false), (0, false), (0, false), (0, false), (0, false), (0, false), (0, false), (0, true), (0, false), (0, false)] (by kernel_rfl) (by kernel_rfl) (by kernel_rfl) (fun _ _ _ d _ h => by cases d <;> exact h) ?_
              repeat
                first
                | (first | with_reducible refine sp0 (fun K hK => ?_) | with_reducible refine sp1 (fun K hK => ?_) | with_reducible refine sp2 (fun K hK => ?_) | with_reducible refine sp3 (fun K hK => ?_) | with_reducible refine sp4 (fun K hK => ?_)
                   go_simp
                   first
                   | (with_reducible refine hK _ _ ?_; clear hK K)
                   | (with_reducible apply Exists.intro
                      refine ⟨fun x hx => ?_, hK _ _ ?_⟩
                      first
                        | (with_reducible exact rfl)
                        | (have y0 := keepc hx c0; have y1 := keepc hx c1; have y2 := keepc hx c2; have y3 := keepc hx d0; have y4 := keepc hx d1; have y5 := keepc hx d2; have y6 := keepc hx x0; have y7 := keepc hx x1; have y8 := keepc hx x2; have y9 := keepc hx p0; have y10 := keepc hx p1; have y11 := keepc hx p2; have y12 := keepc hx r0; have y13 := keepc hx r1; have y14 := keepc hx r2; have y15 := keepc hx z0; have y16 := keepc hx z1; have y17 := keepc hx z2; go_simp; done)
                        | (have y0 := keepc hx c0; have y1 := keepc hx c1; have y2 := keepc hx c2; have y3 := keepc hx d0; have y4 := keepc hx d1; have y5 := keepc hx d2; have y6 := keepc hx x0; have y7 := keepc hx x1; have y8 := keepc hx x2; have y9 := keepc hx p0; have y10 := keepc hx p1; have y11 := keepc hx p2; have y12 := keepc hx r0; have y13 := keepc hx r1; have y14 := keepc hx r2; have y15 := keepc hx z0; have y16 := keepc hx z1; have y17 := keepc hx z2; go_simp; with_reducible exact rfl)
                      clear hK K))
                | (first | with_reducible refine sk0 ?_ (fun K hK => ?_) | with_reducible refine sk1 ?_ (fun K hK => ?_) | with_reducible refine sk2 ?_ (fun K hK => ?_) | with_reducible refine sk3 ?_ (fun K hK => ?_) | with_reducible refine sk4 ?_ (fun K hK => ?_)
                   rfl
                   go_simp
                   with_reducible refine hK _ _ ?_
                   clear hK K)
              first | with_reducible refine sc0 (fun K hK => ?_) | with_reducible refine sc1 (fun K hK => ?_) | with_reducible refine sc2 (fun K hK => ?_) | with_reducible refine sc3 (fun K hK => ?_) | with_reducible refine sc4 (fun K hK => ?_)
              go_simp
              refine (HC1.out _ (HWX.out _ HBd.out)).mono ?_
              clear c0 c1 c2 d0 d1 d2 x0 x1 x2 p0 p1 p2 r0 r1 r2 z0 z1 z2
              rintro e v1 ⟨rfl, hb9⟩
              refine ⟨hb9, hK _ _ ?_⟩
              clear hK K
              have HV1 := Lib.hid (HBd.out.trans (hb9.mono (HLE.out _ HBd.out)))
              clear hb9
              obtain ⟨⟨⟨c0, c1, c2⟩, ⟨d0, d1, d2⟩⟩, ⟨x0, x1, x2⟩, ⟨p0, p1, p2⟩, ⟨r0, r1, r2⟩, ⟨z0, z1, z2⟩⟩ := HCELL4.out v1 HV1.out
              repeat
                first
                | (first | with_reducible refine sp0 (fun K hK => ?_) | with_reducible refine sp1 (fun K hK => ?_) | with_reducible refine sp2 (fun K hK => ?_) | with_reducible refine sp3 (fun K hK => ?_) | with_reducible refine sp4 (fun K hK => ?_)
                   go_simp
                   first
                   | (with_reducible refine hK _ _ ?_; clear hK K)
                   | (with_reducible apply Exists.intro
                      refine ⟨fun x hx => ?_, hK _ _ ?_⟩
                      first
                        | (with_reducible exact rfl)
                        | (have y0 := keepc hx c0; have y1 := keepc hx c1; have y2 := keepc hx c2; have y3 := keepc hx d0; have y4 := keepc hx d1; have y5 := keepc hx d2; have y6 := keepc hx x0; have y7 := keepc hx x1; have y8 := keepc hx x2; have y9 := keepc hx p0; have y10 := keepc hx p1; have y11 := keepc hx p2; have y12 := keepc hx r0; have y13 := keepc hx r1; have y14 := keepc hx r2; have y15 := keepc hx z0; have y16 := keepc hx z1; have y17 := keepc hx z2; go_simp; done)
                        | (have y0 := keepc hx c0; have y1 := keepc hx c1; have y2 := keepc hx c2; have y3 := keepc hx d0; have y4 := keepc hx d1; have y5 := keepc hx d2; have y6 := keepc hx x0; have y7 := keepc hx x1; have y8 := keepc hx x2; have y9 := keepc hx p0; have y10 := keepc hx p1; have y11 := keepc hx p2; have y12 := keepc hx r0; have y13 := keepc hx r1; have y14 := keepc hx r2; have y15 := keepc hx z0; have y16 := keepc hx z1; have y17 := keepc hx z2; go_simp; with_reducible exact rfl)
                      clear hK K))
                | (first | with_reducible refine sk0 ?_ (fun K hK => ?_) | with_reducible refine sk1 ?_ (fun K hK => ?_) | with_reducible refine sk2 ?_ (fun K hK => ?_) | with_reducible refine sk3 ?_ (fun K hK => ?_) | with_reducible refine sk4 ?_ (fun K hK => ?_)
                   rfl
                   go_simp
                   with_reducible refine hK _ _ ?_
                   clear hK K)
              first | with_reducible refine sc0 (fun K hK => ?_) | with_reducible refine sc1 (fun K hK => ?_) | with_reducible refine sc2 (fun K hK => ?_) | with_reducible refine sc3 (fun K hK => ?_) | with_reducible refine sc4 (fun K hK => ?_)
              go_simp
              refine (HC2.out _ (HWX.out _ HV1.out)).mono ?_
              clear c0 c1 c2 d0 d1 d2 x0 x1 x2 p0 p1 p2 r0 r1 r2 z0 z1 z2
              rintro e v2 ⟨rfl, hb9⟩
              refine ⟨hb9, hK _ _ ?_⟩
              clear hK K
              have HV2 := Lib.hid (HV1.out.trans (hb9.mono (HLE.out _ HV1.out)))
              clear hb9
              obtain ⟨⟨⟨c0, c1, c2⟩, ⟨d0, d1, d2⟩⟩, ⟨x0, x1, x2⟩, ⟨p0, p1, p2⟩, ⟨r0, r1, r2⟩, ⟨z0, z1, z2⟩⟩ := HCELL4.out v2 HV2.out
              repeat
                first
                | (first | with_reducible refine sp0 (fun K hK => ?_) | with_reducible refine sp1 (fun K hK => ?_) | with_reducible refine sp2 (fun K hK => ?_) | with_reducible refine sp3 (fun K hK => ?_) | with_reducible refine sp4 (fun K hK => ?_)
                   go_simp
                   first
                   | (with_reducible refine hK _ _ ?_; clear hK K)
                   | (with_reducible apply Exists.intro
                      refine ⟨fun x hx => ?_, hK _ _ ?_⟩
                      first
                        | (with_reducible exact rfl)
                        | (have y0 := keepc hx c0; have y1 := keepc hx c1; have y2 := keepc hx c2; have y3 := keepc hx d0; have y4 := keepc hx d1; have y5 := keepc hx d2; have y6 := keepc hx x0; have y7 := keepc hx x1; have y8 := keepc hx x2; have y9 := keepc hx p0; have y10 := keepc hx p1; have y11 := keepc hx p2; have y12 := keepc hx r0; have y13 := keepc hx r1; have y14 := keepc hx r2; have y15 := keepc hx z0; have y16 := keepc hx z1; have y17 := keepc hx z2; go_simp; done)
                        | (have y0 := keepc hx c0; have y1 := keepc hx c1; have y2 := keepc hx c2; have y3 := keepc hx d0; have y4 := keepc hx d1; have y5 := keepc hx d2; have y6 := keepc hx x0; have y7 := keepc hx x1; have y8 := keepc hx x2; have y9 := keepc hx p0; have y10 := keepc hx p1; have y11 := keepc hx p2; have y12 := keepc hx r0; have y13 := keepc hx r1; have y14 := keepc hx r2; have y15 := keepc hx z0; have y16 := keepc hx z1; have y17 := keepc hx z2; go_simp; with_reducible exact rfl)
                      clear hK K))
                | (first | with_reducible refine sk0 ?_ (fun K hK => ?_) | with_reducible refine sk1 ?_ (fun K hK => ?_) | with_reducible refine sk2 ?_ (fun K hK => ?_) | with_reducible refine sk3 ?_ (fun K hK => ?_) | with_reducible refine sk4 ?_ (fun K hK => ?_)
                   rfl
                   go_simp
                   with_reducible refine hK _ _ ?_
                   clear hK K)
              with_reducible refine seq_nil ?_
              clear c0 c1 c2 d0 d1 d2 x0 x1 x2 p0 p1 p2 r0 r1 r2 z0 z1 z2
              go_wp2_with fail
              go_ret
              exact ⟨ret_boolT (by rw [HR.out]; rfl), HWX.out _ HV2.out⟩
          · have g9 : (kk == 9) = false := by simp [h9]
            have HR := Lib.hid (HL9.out h9)
            clear h9
            go_upto_region 10 with (first | (go_at_call 29; refine (HLF.out _).mono ?_; clear c0 c1 c2 d0 d1 d2; rintro e w3 ⟨rfl, hb⟩; have HB3 := Lib.hid (show Below (w.heap.size + 1 + 1) W2 w3 from hb.mono (Nat.le_of_eq HS2.out.symm)); clear hb; obtain ⟨⟨c0, c1, c2⟩, ⟨d0, d1, d2⟩⟩ := HCELL.out _ HB3.out) | (go_at_call 31; refine (HLK.out _).mono ?_; clear c0 c1 c2 d0 d1 d2; rintro e w4 ⟨rfl, hb⟩; have HB4 := Lib.hid (show Below (w.heap.size + 1 + 1) W2 w4 from HB3.out.trans (hb.mono (by have := HB3.out.size; have := HS2.out; omega))); clear hb; obtain ⟨⟨c0, c1, c2⟩, ⟨d0, d1, d2⟩⟩ := HCELL.out _ HB4.out))
            clear c0 c1 c2 d0 d1 d2
            go_wp2_with fail
            go_loopg [7] m' (fun gk i wr => ∃ k : Nat, k ≤ m' ∧ i = .int .i64 k ∧ sds .s (t.kids.take k) (u.kids.take k) = true ∧ Below (w.heap.size + 1 + 1) W2 wr ∧ gk = m' - k)
            case atStart => exact ⟨0, Nat.zero_le _, rfl, rfl, HB4.out, rfl⟩
            case round =>
              obtain ⟨k, hk, rfl, hw, hb, rfl⟩ := hrel
              obtain ⟨⟨c0, c1, c2⟩, ⟨d0, d1, d2⟩⟩ := HCELL.out _ hb
              have hbw : Below w.heap.size w wr := HB2.out.trans (hb.mono (by omega))
              have HBB := Lib.hid hb; have HBW := Lib.hid hbw; have HW := Lib.hid hw; clear hb hbw hw
              by_cases hlt : k < m'
              · have hkl : k < t.kids.length := by rw [HM.out]; exact hlt
                have hkl' : k < u.kids.length := by rw [HM'.out]; exact hlt
                obtain ⟨b, o, xa, xcap, rfl, hbn, hx, x0, x1, x2⟩ := kid_at HTY.out HBW.out (Nat.le_refl _) hkl
                obtain ⟨b', o', ya, ycap, rfl, hbn', hy, y0, y1, y2⟩ := kid_at HTY'.out HBW.out (Nat.le_refl _) hkl'
                have hst := sds_take .s t.kids u.kids k hkl hkl'
                have hge := sds_get .s t.kids u.kids k hkl hkl'
                have hcall1 := IH.out t.kids[k] u.kids[k] xa xcap ya ycap wr.drew (by have := (sms_kid k k hkl hkl').1; have := HN.out; omega) (rights_at (kids_right HRT.out) k hkl) (rights_at (kids_right HRU.out) k hkl') (hx.below ((Below.refl wr.heap.size wr).drew) (fun _ h => h) (fun _ h => h)) (hy.below ((Below.refl wr.heap.size wr).drew) (fun _ h => h) (fun _ h => h))
                unfold tv at hcall1
                obtain ⟨x, hx'⟩ : ∃ x, t.kids[k] = x := ⟨_, rfl⟩
                obtain ⟨y, hy'⟩ : ∃ x, u.kids[k] = x := ⟨_, rfl⟩
                rw [hx'] at x0 x1 x2 hcall1 hst hge
                rw [hy'] at y0 y1 y2 hcall1 hst hge
                obtain ⟨s2, hs2⟩ : ∃ s1, Tp.sd .s x y = s1 := ⟨_, rfl⟩
                rw [hs2] at hcall1 hst hge
                have HST := Lib.hid hst; have HC := Lib.hid hcall1; have HGE := Lib.hid hge
                clear hst hcall1 hx hx' hy hy' hs2 hge
                cases s2 with
                | true =>
                  go_wp2_with fail
                  go_still_tail 10, (by kernel_rfl)
                  go_wp2_with (go_at_call 16; refine HC.out.mono ?_; rintro e w' ⟨rfl, hb'⟩)
                  have hb2 := below_undrew hb'
                  go_roundg (m' - (k + 1))
                  case measure => omega
                  case rel => exact ⟨k + 1, by omega, by go_num, by rw [HST.out, HW.out]; rfl, HBB.out.trans (hb2.mono (by have := HBB.out.size; have := HS2.out; omega)), rfl⟩
                | false =>
                  go_wp2_with fail
                  go_still_tail 10, (by kernel_rfl)
                  go_wp2_with (go_at_call 16; refine HC.out.mono ?_; rintro e w' ⟨rfl, hb'⟩)
                  have hb2 := below_undrew hb'
                  go_ret
                  exact ⟨ret_boolT (by rw [HR.out]; exact (HGE.out trivial).symm), HBW.out.trans (hb2.mono HBW.out.size)⟩
              · obtain rfl : k = m' := by omega
                go_wp2_with fail
                go_ret
                exact ⟨ret_boolT (by rw [HR.out, ← HW.out, List.take_of_length_le (by rw [HM.out]; exact Nat.le_refl _), List.take_of_length_le (by rw [HM'.out]; exact Nat.le_refl _)]), HBW.out⟩
set_option maxRecDepth 100000 in
set_option maxHeartbeats 8000000 in
theorem rside_any : ∀ (n : Nat) (ng : Bool) (t u : T) (a : Option Addr) (cap : Nat) (a' : Option Addr) (cap' : Nat) (w : World), sms t u < n → Tp.right t = true → Tp.right u = true → TyAt (LT w.heap.size) w t a cap → TyAt (LT w.heap.size) w u a' cap' →
    Calls Try.prog 13 #[tv t a cap, tv u a' cap', .bool ng] w fun e w' => e = .returned (.bool (Tp.sd (if ng = true then Md.n else Md.p) t u)) ∧ Below w.heap.size w w' := by
  intro n
  induction n with
  | zero => intro ng t u a cap a' cap' w h; omega
  | succ n ih =>
    intro ng t u a cap a' cap' w hn hrt hru hty hty'
    have hm10 : (t.kids.length : Int) ≤ 9223372036854775807 := by have h1 := hty.2.2.1; have h2 := hty.2.2.2.1; unfold maxLen at h2; omega
    have HN := Lib.hid hn; have HTY := Lib.hid hty; have HTY' := Lib.hid hty'; have IH := Lib.hid ih; have HRT := Lib.hid hrt; have HRU := Lib.hid hru
    obtain ⟨kk, nn, m, hv⟩ := TV.mk t
    obtain ⟨kk', nn', m', hv'⟩ := TV.mk u
    have hlf := fun x => rleaf_any (a := a) (c := cap) (a' := a') (c' := cap') x hv hv'
    have hlk := fun x => rlike_any (a := a) (c := cap) (a' := a') (c' := cap') x hv hv'
    rw [tv_of hv, tv_of hv']
    rw [hv.2.2] at hm10
    obtain ⟨W2, hW2⟩ : ∃ W2, (w.alloc (.cells #[.int .i64 kk, .int .i64 nn, .slice a m cap] 24)).alloc (.cells #[.int .i64 kk', .int .i64 nn', .slice a' m' cap'] 24) = W2 := ⟨_, rfl⟩
    obtain ⟨hb2, hs2, hcell⟩ := box_pair W2 hW2
    obtain ⟨⟨c0, c1, c2⟩, ⟨d0, d1, d2⟩⟩ := hcell W2 (Below.refl _ _)
    have HM := Lib.hid hv.2.2; have HM' := Lib.hid hv'.2.2; have HB2 := Lib.hid hb2; have HS2 := Lib.hid hs2; have HCELL := Lib.hid hcell; have HW2 := Lib.hid hW2; have HLF := Lib.hid hlf; have HLK := Lib.hid hlk
    have HV := Lib.hid hv; have HV' := Lib.hid hv'
    clear hn ih hlf hlk hb2 hs2 hcell hW2
    have hpn := side_n hrt hru; have hpp := side_p hrt hru
    rw [hv.1] at hpn; rw [hv'.1] at hpp
    have HPN := Lib.hid hpn; have HPP := Lib.hid hpp
    clear hpn hpp
    cases ng with
    | true =>
      simp only [if_true]
      obtain ⟨q1, q2, q3, q4, q5⟩ := page_sub hrt hru .n
      rw [hv.1, hv.2.2, hv'.1] at q4; rw [hv.1, hv'.1] at q2 q5; rw [hv.1] at q3
      obtain ⟨res, hres⟩ : ∃ res, Tp.sd .n t u = res := ⟨_, rfl⟩
      rw [hres] at HPN
      rw [hres] at q1 q2 q3 q4 ⊢
      have Q1 := Lib.hid q1; have Q2 := Lib.hid q2; have Q3 := Lib.hid q3; have Q4 := Lib.hid q4; have Q5 := Lib.hid q5
      clear q1 q2 q3 q4 q5 hrt hru hty hty' hv hv' hres
      go_enter Try.func13, Try.ntmps13
      go_upto_region 1 with fail
      rw [HW2.out]
      by_cases h5 : kk = 5
      · have g5 : (kk == 5) = true := by simp [h5]
        have HRES := Lib.hid (HPN.out h5); clear h5
        go_wp2_with fail
        go_ret
        exact ⟨ret_boolT HRES.out.symm, HB2.out⟩
      · have g5 : (kk == 5) = false := by simp [h5]
        obtain ⟨lf_, hlf_⟩ : ∃ b, leafB t u = b := ⟨_, rfl⟩
        rw [hlf_] at HLF Q1 Q2 Q5
        cases lf_ with
        | true =>
          have HRES := Lib.hid (Q1.out rfl)
          clear hlf_
          go_wp2_with (go_at_call 29; refine (HLF.out _).mono ?_; clear c0 c1 c2 d0 d1 d2; rintro e w3 ⟨rfl, hb⟩; have HB3 := Lib.hid (show Below (w.heap.size + 1 + 1) W2 w3 from hb.mono (Nat.le_of_eq HS2.out.symm)); clear hb)
          go_ret
          exact ⟨ret_boolT HRES.out.symm, HB2.out.trans (HB3.out.mono (by omega))⟩
        | false =>
          by_cases h6 : kk' = 5
          · have g6 : (kk' == 5) = true := by simp [h6]
            have HQ4 := Lib.hid (Q4.out h5 h6 (by intro h; cases h)); have HK5 := Lib.hid h6
            clear h5 h6 hlf_
            go_upto_region 4 with (go_at_call 29; refine (HLF.out _).mono ?_; clear c0 c1 c2 d0 d1 d2; rintro e w3 ⟨rfl, hb⟩; have HB3 := Lib.hid (show Below (w.heap.size + 1 + 1) W2 w3 from hb.mono (Nat.le_of_eq HS2.out.symm)); clear hb; obtain ⟨⟨c0, c1, c2⟩, ⟨d0, d1, d2⟩⟩ := HCELL.out _ HB3.out)
            go_wp2_with fail
            have HB03 := Lib.hid (HB2.out.trans (HB3.out.mono (by omega)))
            have HT3 := Lib.hid (ty_later HTY.out HB03.out)
            refine (rgrd_any HV.out HRT.out HT3.out).mono ?_
            rintro e w4 ⟨kh, nh, mh, ah, ch, hvh, rfl, tyh, hb⟩
            obtain ⟨gg, hgg⟩ : ∃ z, Tp.hasG t = z := ⟨_, rfl⟩
            have hq4 := HQ4.out
            rw [hgg] at hq4
            rw [hgg]
            have HB4 := Lib.hid (show Below (w.heap.size + 1 + 1) W2 w4 from HB3.out.trans (hb.mono (by have := HB3.out.size; have := HS2.out; omega)))
            clear c0 c1 c2 d0 d1 d2
            obtain ⟨W5, hW5⟩ : ∃ W, w4.alloc (.cells #[.int .i64 kh, .int .i64 nh, .slice ah mh ch] 24) = W := ⟨_, rfl⟩
            obtain ⟨bg, hb5⟩ := box_new hvh (ty_same (fun _ _ => rfl) (fun _ h => h.2) tyh) hW5
            have HB5 := Lib.hid (show Below (w.heap.size + 1 + 1) W2 W5 from HB4.out.trans (hb5.mono (by have := HB4.out.size; have := HS2.out; omega)))
            have BG := Lib.hid bg; have HW5 := Lib.hid hW5; have HGG := Lib.hid hgg; have HQ := Lib.hid hq4
            clear hvh tyh hb hgg hq4 bg hb5 hW5
            go_upto_region 5 with fail
            rw [HW5.out]
            obtain ⟨⟨c0, c1, c2⟩, ⟨d0, d1, d2⟩⟩ := HCELL.out _ HB5.out
            obtain ⟨g0, g1, g2⟩ := BG.out.cells
            have HBW5 := Lib.hid (HB2.out.trans (HB5.out.mono (by omega)))
            cases gg with
            | false =>
              go_wp2_with fail
              go_ret
              exact ⟨ret_boolT (by rw [HQ.out]; rfl), HBW5.out⟩
            | true =>
              by_cases hm0 : m = 0
              · have gm : ((m : Int) == 0) = true := by simp [hm0]
                have HM0 := Lib.hid hm0; clear hm0
                go_wp2_with fail
                go_ret
                exact ⟨ret_boolT (by rw [HQ.out, decide_eq_true HM0.out]; rfl), HBW5.out⟩
              · have gm : ((m : Int) == 0) = false := by simp; omega
                have HM0 := Lib.hid hm0; clear hm0
                have hgr : Tp.grd t = Tp.gnd t := by unfold Tp.grd; rw [if_pos HGG.out]
                have hcall := IH.out true t (Tp.gnd t) a cap ah ch W5 (by have := sms_gnd HGG.out (by rw [HV'.out.1]; exact HK5.out); have := HN.out; omega) HRT.out (Tp.gnd_right HGG.out) (ty_later HTY.out HBW5.out) (by rw [← hgr]; exact BG.out.ty)
                rw [tv_of HV.out, tv_of (hgr ▸ BG.out.says)] at hcall
                simp only [if_true] at hcall
                have HC := Lib.hid hcall; clear hcall hgr
                go_wp2_with (go_at_call 13; refine HC.out.mono ?_; clear c0 c1 c2 d0 d1 d2 g0 g1 g2; rintro e w6 ⟨rfl, hb⟩)
                go_ret
                exact ⟨ret_boolT (by rw [HQ.out, decide_eq_false HM0.out]; rfl), HBW5.out.tr hb (Nat.le_refl _)⟩
          · have g6 : (kk' == 5) = false := by simp [h6]
            have HNOL := Lib.hid (fun h => Q2.out rfl h (fun _ => h5) h6)
            clear h5 h6
            obtain ⟨lk_, hlk_⟩ : ∃ b, likeB t u = b := ⟨_, rfl⟩
            rw [hlk_] at HLK Q3 HNOL
            cases lk_ with
            | false =>
              have HRES := Lib.hid (HNOL.out rfl)
              clear hlk_ hlf_
              go_wp2_with (first | (go_at_call 29; refine (HLF.out _).mono ?_; clear c0 c1 c2 d0 d1 d2; rintro e w3 ⟨rfl, hb⟩; have HB3 := Lib.hid (show Below (w.heap.size + 1 + 1) W2 w3 from hb.mono (Nat.le_of_eq HS2.out.symm)); clear hb; obtain ⟨⟨c0, c1, c2⟩, ⟨d0, d1, d2⟩⟩ := HCELL.out _ HB3.out) | (go_at_call 31; refine (HLK.out _).mono ?_; clear c0 c1 c2 d0 d1 d2; rintro e w4 ⟨rfl, hb⟩; have HB4 := Lib.hid (show Below (w.heap.size + 1 + 1) W2 w4 from HB3.out.trans (hb.mono (by have := HB3.out.size; have := HS2.out; omega))); clear hb; obtain ⟨⟨c0, c1, c2⟩, ⟨d0, d1, d2⟩⟩ := HCELL.out _ HB4.out))
              go_ret
              exact ⟨ret_boolT HRES.out.symm, HB2.out.trans (HB4.out.mono (by omega))⟩
            | true =>
              obtain ⟨hlen, hf9, hl9⟩ := Q3.out rfl
              have hmm : m' = m := by rw [← HM.out, ← HM'.out, hlen]
              subst hmm
              have HF9 := Lib.hid hf9; have HL9 := Lib.hid hl9
              clear hlk_ hlf_ hlen hf9 hl9
              by_cases h9 : kk = 9
              · have g9 : (kk == 9) = true := by simp [h9]
                have H9 := Lib.hid h9; clear h9
                go_upto_region 9 with (first | (go_at_call 29; refine (HLF.out _).mono ?_; clear c0 c1 c2 d0 d1 d2; rintro e w3 ⟨rfl, hb⟩; have HB3 := Lib.hid (show Below (w.heap.size + 1 + 1) W2 w3 from hb.mono (Nat.le_of_eq HS2.out.symm)); clear hb; obtain ⟨⟨c0, c1, c2⟩, ⟨d0, d1, d2⟩⟩ := HCELL.out _ HB3.out) | (go_at_call 31; refine (HLK.out _).mono ?_; clear c0 c1 c2 d0 d1 d2; rintro e w4 ⟨rfl, hb⟩; have HB4 := Lib.hid (show Below (w.heap.size + 1 + 1) W2 w4 from HB3.out.trans (hb.mono (by have := HB3.out.size; have := HS2.out; omega))); clear hb; obtain ⟨⟨c0, c1, c2⟩, ⟨d0, d1, d2⟩⟩ := HCELL.out _ HB4.out))
                obtain ⟨h22, hf⟩ := HF9.out H9.out
                have hm2 : m' = 2 := by rw [← HM.out]; exact h22
                have l0 : 0 < t.kids.length := by omega
                have l1 : 1 < t.kids.length := by omega
                have l0' : 0 < u.kids.length := by rw [HM'.out]; omega
                have l1' : 1 < u.kids.length := by rw [HM'.out]; omega
                have hr := hf l0 l0' l1 l1'
                have hbw : Below w.heap.size w w4.drew := HB2.out.trans ((HB4.out.drew).mono (by omega))
                obtain ⟨b, o, xa, xcap, xk, xn, xm, rfl, hbn, hvx, htx, hcx⟩ := kid_tv HTY.out (Nat.le_refl _) l0
                obtain ⟨b2, o2, xa2, xcap2, xk2, xn2, xm2, he, -, hvx2, htx2, hcx2⟩ := kid_tv HTY.out (Nat.le_refl _) l1
                injection he with he; injection he with he1 he2; subst he1 he2
                obtain ⟨b', o', ya, ycap, yk, yn, ym, rfl, hbn', hvy, hty_, hcy⟩ := kid_tv HTY'.out (Nat.le_refl _) l0'
                obtain ⟨b3, o3, ya2, ycap2, yk2, yn2, ym2, he, -, hvy2, hty2, hcy2⟩ := kid_tv HTY'.out (Nat.le_refl _) l1'
                injection he with he; injection he with he1 he2; subst he1 he2
                have hc1 := fun x (h : Below w.heap.size w x) => IH.out false u.kids[0] t.kids[0] ya ycap xa xcap x (by have := (sms_kid 0 0 l0 l0').2; have := HN.out; omega) (rights_at (kids_right HRU.out) 0 l0') (rights_at (kids_right HRT.out) 0 l0) (hty_ x h) (htx x h)
                have hc2 := fun x (h : Below w.heap.size w x) => IH.out true t.kids[1] u.kids[1] xa2 xcap2 ya2 ycap2 x (by have := (sms_kid 1 1 l1 l1').1; have := HN.out; omega) (rights_at (kids_right HRT.out) 1 l1) (rights_at (kids_right HRU.out) 1 l1') (htx2 x h) (hty2 x h)
                have e1 := tv_of (a := xa) (c := xcap) hvx; have e2 := tv_of (a := xa2) (c := xcap2) hvx2; have e3 := tv_of (a := ya) (c := ycap) hvy; have e4 := tv_of (a := ya2) (c := ycap2) hvy2
                simp only [e1, e2, e3, e4, if_true, Bool.false_eq_true, if_false] at hc1 hc2
                have hr' : res = (Tp.sd .p u.kids[0] t.kids[0] && Tp.sd .n t.kids[1] u.kids[1]) := hr
                obtain ⟨s1, hs1⟩ : ∃ z, Tp.sd .p u.kids[0] t.kids[0] = z := ⟨_, rfl⟩
                obtain ⟨s2, hs2⟩ : ∃ z, Tp.sd .n t.kids[1] u.kids[1] = z := ⟨_, rfl⟩
                rw [hs1] at hc1 hr'; rw [hs2] at hc2 hr'
                have HC1 := Lib.hid hc1; have HC2 := Lib.hid hc2; have HR := Lib.hid hr'
                have HCK := Lib.hid (fun x (h : Below w.heap.size w x) => (⟨hcx x h, hcx2 x h, hcy x h, hcy2 x h⟩ : _ ∧ _ ∧ _ ∧ _))
                have HWX := Lib.hid (fun x (h : Below w4.heap.size w4 x) => (show Below w.heap.size w x from HB2.out.trans ((HB4.out.trans (h.mono (by have := HB4.out.size; have := HS2.out; omega))).mono (by omega))))
                have HCELL4 := Lib.hid (fun x (h : Below w4.heap.size w4 x) => (⟨HCELL.out x (HB4.out.trans (h.mono (by have := HB4.out.size; have := HS2.out; omega))), HCK.out x (HWX.out x h)⟩ : _ ∧ _))
                have HLE := Lib.hid (fun x (h : Below w4.heap.size w4 x) => h.size)
                have HBd := Lib.hid (Below.refl w4.heap.size w4).drew
                simp only [Nat.zero_mul, Nat.add_zero, Nat.one_mul] at HCELL4
                have i0 : (0 : Int) < (m' : Int) := by omega
                have i1 : (1 : Int) < (m' : Int) := by omega
                clear hc1 hc2 hr hr' hf hs1 hs2 hcx hcx2 hcy hcy2 htx htx2 hty_ hty2 hvx hvx2 hvy hvy2 e1 e2 e3 e4 l0 l1 l0' l1' h22 hbn hbn' hbw c0 c1 c2 d0 d1 d2
                subst hm2
                obtain ⟨⟨⟨c0, c1, c2⟩, ⟨d0, d1, d2⟩⟩, ⟨x0, x1, x2⟩, ⟨p0, p1, p2⟩, ⟨r0, r1, r2⟩, ⟨z0, z1, z2⟩⟩ := HCELL4.out _ HBd.out
                cases s1 with
                | false =>
                  refine wp_region_seq [(0, false), (0, false), (0, false), (0, false), (0, false), (0, false), (0, false), (0, false), (0, false), (0, false), (0, true), (0, false), (0, false), (0, false), (0, false), (0, false), (0, false), (0, false), (0, false), (0, false), (0, false), (0, true), (0, false), (0, false)] (by kernel_rfl) (by kernel_rfl) (by kernel_rfl) (fun _ _ _ d _ h => by cases d <;> exact h) ?_
                  repeat
                    first
                    | (first | with_reducible refine sp0 (fun K hK => ?_) | with_reducible refine sp1 (fun K hK => ?_) | with_reducible refine sp2 (fun K hK => ?_) | with_reducible refine sp3 (fun K hK => ?_) | with_reducible refine sp4 (fun K hK => ?_)
                       go_simp
                       first
                       | (with_reducible refine hK _ _ ?_; clear hK K)
                       | (with_reducible apply Exists.intro
                          refine ⟨fun x hx => ?_, hK _ _ ?_⟩
                          first
                            | (with_reducible exact rfl)
                            | (have y0 := keepc hx c0; have y1 := keepc hx c1; have y2 := keepc hx c2; have y3 := keepc hx d0; have y4 := keepc hx d1; have y5 := keepc hx d2; have y6 := keepc hx x0; have y7 := keepc hx x1; have y8 := keepc hx x2; have y9 := keepc hx p0; have y10 := keepc hx p1; have y11 := keepc hx p2; have y12 := keepc hx r0; have y13 := keepc hx r1; have y14 := keepc hx r2; have y15 := keepc hx z0; have y16 := keepc hx z1; have y17 := keepc hx z2; go_simp; done)
                            | (have y0 := keepc hx c0; have y1 := keepc hx c1; have y2 := keepc hx c2; have y3 := keepc hx d0; have y4 := keepc hx d1; have y5 := keepc hx d2; have y6 := keepc hx x0; have y7 := keepc hx x1; have y8 := keepc hx x2; have y9 := keepc hx p0; have y10 := keepc hx p1; have y11 := keepc hx p2; have y12 := keepc hx r0; have y13 := keepc hx r1; have y14 := keepc hx r2; have y15 := keepc hx z0; have y16 := keepc hx z1; have y17 := keepc hx z2; go_simp; with_reducible exact rfl)
                          clear hK K))
                    | (first | with_reducible refine sk0 ?_ (fun K hK => ?_) | with_reducible refine sk1 ?_ (fun K hK => ?_) | with_reducible refine sk2 ?_ (fun K hK => ?_) | with_reducible refine sk3 ?_ (fun K hK => ?_) | with_reducible refine sk4 ?_ (fun K hK => ?_)
                       rfl
                       go_simp
                       with_reducible refine hK _ _ ?_
                       clear hK K)
                  first | with_reducible refine sc0 (fun K hK => ?_) | with_reducible refine sc1 (fun K hK => ?_) | with_reducible refine sc2 (fun K hK => ?_) | with_reducible refine sc3 (fun K hK => ?_) | with_reducible refine sc4 (fun K hK => ?_)
                  go_simp
                  refine (HC1.out _ (HWX.out _ HBd.out)).mono ?_
                  clear c0 c1 c2 d0 d1 d2 x0 x1 x2 p0 p1 p2 r0 r1 r2 z0 z1 z2
                  rintro e v1 ⟨rfl, hb9⟩
                  refine ⟨hb9, hK _ _ ?_⟩
                  clear hK K
                  have HV1 := Lib.hid (HBd.out.trans (hb9.mono (HLE.out _ HBd.out)))
                  clear hb9
                  obtain ⟨⟨⟨c0, c1, c2⟩, ⟨d0, d1, d2⟩⟩, ⟨x0, x1, x2⟩, ⟨p0, p1, p2⟩, ⟨r0, r1, r2⟩, ⟨z0, z1, z2⟩⟩ := HCELL4.out v1 HV1.out
                  repeat
                    first
                    | (first | with_reducible refine sp0 (fun K hK => ?_) | with_reducible refine sp1 (fun K hK => ?_) | with_reducible refine sp2 (fun K hK => ?_) | with_reducible refine sp3 (fun K hK => ?_) | with_reducible refine sp4 (fun K hK => ?_)
                       go_simp
                       first
                       | (with_reducible refine hK _ _ ?_; clear hK K)
                       | (with_reducible apply Exists.intro
                          refine ⟨fun x hx => ?_, hK _ _ ?_⟩
                          first
                            | (with_reducible exact rfl)
                            | (have y0 := keepc hx c0; have y1 := keepc hx c1; have y2 := keepc hx c2; have y3 := keepc hx d0; have y4 := keepc hx d1; have y5 := keepc hx d2; have y6 := keepc hx x0; have y7 := keepc hx x1; have y8 := keepc hx x2; have y9 := keepc hx p0; have y10 := keepc hx p1; have y11 := keepc hx p2; have y12 := keepc hx r0; have y13 := keepc hx r1; have y14 := keepc hx r2; have y15 := keepc hx z0; have y16 := keepc hx z1; have y17 := keepc hx z2; go_simp; done)
                            | (have y0 := keepc hx c0; have y1 := keepc hx c1; have y2 := keepc hx c2; have y3 := keepc hx d0; have y4 := keepc hx d1; have y5 := keepc hx d2; have y6 := keepc hx x0; have y7 := keepc hx x1; have y8 := keepc hx x2; have y9 := keepc hx p0; have y10 := keepc hx p1; have y11 := keepc hx p2; have y12 := keepc hx r0; have y13 := keepc hx r1; have y14 := keepc hx r2; have y15 := keepc hx z0; have y16 := keepc hx z1; have y17 := keepc hx z2; go_simp; with_reducible exact rfl)
                          clear hK K))
                    | (first | with_reducible refine sk0 ?_ (fun K hK => ?_) | with_reducible refine sk1 ?_ (fun K hK => ?_) | with_reducible refine sk2 ?_ (fun K hK => ?_) | with_reducible refine sk3 ?_ (fun K hK => ?_) | with_reducible refine sk4 ?_ (fun K hK => ?_)
                       rfl
                       go_simp
                       with_reducible refine hK _ _ ?_
                       clear hK K)
                  with_reducible refine seq_nil ?_
                  clear c0 c1 c2 d0 d1 d2 x0 x1 x2 p0 p1 p2 r0 r1 r2 z0 z1 z2
                  go_wp2_with fail
                  go_ret
                  exact ⟨ret_boolT (by rw [HR.out]; rfl), HWX.out _ HV1.out⟩
                | true =>
                  refine wp_region_seq [(0, false), (0, false), (0, false), (0, false), (0, false), (0, false), (0, false), (0, false), (0, false), (0, false), (0, true), (0, false), (0, false), (0, false), (0, false), (0, false), (0, false), (0, false), (0, false), (0, false), (0, false), (0, true), (0, false), (0, false)] (by kernel_rfl) (by kernel_rfl) (by kernel_rfl) (fun _ _ _ d _ h => by cases d <;> exact h) ?_
                  repeat
                    first
                    | (first | with_reducible refine sp0 (fun K hK => ?_) | with_reducible refine sp1 (fun K hK => ?_) | with_reducible refine sp2 (fun K hK => ?_) | with_reducible refine sp3 (fun K hK => ?_) | with_reducible refine sp4 (fun K hK => ?_)
                       go_simp
                       first
                       | (with_reducible refine hK _ _ ?_; clear hK K)
                       | (with_reducible apply Exists.intro
                          refine ⟨fun x hx => ?_, hK _ _ ?_⟩
                          first
                            | (with_reducible exact rfl)
                            | (have y0 := keepc hx c0; have y1 := keepc hx c1; have y2 := keepc hx c2; have y3 := keepc hx d0; have y4 := keepc hx d1; have y5 := keepc hx d2; have y6 := keepc hx x0; have y7 := keepc hx x1; have y8 := keepc hx x2; have y9 := keepc hx p0; have y10 := keepc hx p1; have y11 := keepc hx p2; have y12 := keepc hx r0; have y13 := keepc hx r1; have y14 := keepc hx r2; have y15 := keepc hx z0; have y16 := keepc hx z1; have y17 := keepc hx z2; go_simp; done)
                            | (have y0 := keepc hx c0; have y1 := keepc hx c1; have y2 := keepc hx c2; have y3 := keepc hx d0; have y4 := keepc hx d1; have y5 := keepc hx d2; have y6 := keepc hx x0; have y7 := keepc hx x1; have y8 := keepc hx x2; have y9 := keepc hx p0; have y10 := keepc hx p1; have y11 := keepc hx p2; have y12 := keepc hx r0; have y13 := keepc hx r1; have y14 := keepc hx r2; have y15 := keepc hx z0; have y16 := keepc hx z1; have y17 := keepc hx z2; go_simp; with_reducible exact rfl)
                          clear hK K))
                    | (first | with_reducible refine sk0 ?_ (fun K hK => ?_) | with_reducible refine sk1 ?_ (fun K hK => ?_) | with_reducible refine sk2 ?_ (fun K hK => ?_) | with_reducible refine sk3 ?_ (fun K hK => ?_) | with_reducible refine sk4 ?_ (fun K hK => ?_)
                       rfl
                       go_simp
                       with_reducible refine hK _ _ ?_
                       clear hK K)
                  first | with_reducible refine sc0 (fun K hK => ?_) | with_reducible refine sc1 (fun K hK => ?_) | with_reducible refine sc2 (fun K hK => ?_) | with_reducible refine sc3 (fun K hK => ?_) | with_reducible refine sc4 (fun K hK => ?_)
                  go_simp
                  refine (HC1.out _ (HWX.out _ HBd.out)).mono ?_
                  clear c0 c1 c2 d0 d1 d2 x0 x1 x2 p0 p1 p2 r0 r1 r2 z0 z1 z2
                  rintro e v1 ⟨rfl, hb9⟩
                  refine ⟨hb9, hK _ _ ?_⟩
                  clear hK K
                  have HV1 := Lib.hid (HBd.out.trans (hb9.mono (HLE.out _ HBd.out)))
                  clear hb9
                  obtain ⟨⟨⟨c0, c1, c2⟩, ⟨d0, d1, d2⟩⟩, ⟨x0, x1, x2⟩, ⟨p0, p1, p2⟩, ⟨r0, r1, r2⟩, ⟨z0, z1, z2⟩⟩ := HCELL4.out v1 HV1.out
                  repeat
                    first
                    | (first | with_reducible refine sp0 (fun K hK => ?_) | with_reducible refine sp1 (fun K hK => ?_) | with_reducible refine sp2 (fun K hK => ?_) | with_reducible refine sp3 (fun K hK => ?_) | with_reducible refine sp4 (fun K hK => ?_)
                       go_simp
                       first
                       | (with_reducible refine hK _ _ ?_; clear hK K)
                       | (with_reducible apply Exists.intro
                          refine ⟨fun x hx => ?_, hK _ _ ?_⟩
                          first
                            | (with_reducible exact rfl)
                            | (have y0 := keepc hx c0; have y1 := keepc hx c1; have y2 := keepc hx c2; have y3 := keepc hx d0; have y4 := keepc hx d1; have y5 := keepc hx d2; have y6 := keepc hx x0; have y7 := keepc hx x1; have y8 := keepc hx x2; have y9 := keepc hx p0; have y10 := keepc hx p1; have y11 := keepc hx p2; have y12 := keepc hx r0; have y13 := keepc hx r1; have y14 := keepc hx r2; have y15 := keepc hx z0; have y16 := keepc hx z1; have y17 := keepc hx z2; go_simp; done)
                            | (have y0 := keepc hx c0; have y1 := keepc hx c1; have y2 := keepc hx c2; have y3 := keepc hx d0; have y4 := keepc hx d1; have y5 := keepc hx d2; have y6 := keepc hx x0; have y7 := keepc hx x1; have y8 := keepc hx x2; have y9 := keepc hx p0; have y10 := keepc hx p1; have y11 := keepc hx p2; have y12 := keepc hx r0; have y13 := keepc hx r1; have y14 := keepc hx r2; have y15 := keepc hx z0; have y16 := keepc hx z1; have y17 := keepc hx z2; go_simp; with_reducible exact rfl)
                          clear hK K))
                    | (first | with_reducible refine sk0 ?_ (fun K hK => ?_) | with_reducible refine sk1 ?_ (fun K hK => ?_) | with_reducible refine sk2 ?_ (fun K hK => ?_) | with_reducible refine sk3 ?_ (fun K hK => ?_) | with_reducible refine sk4 ?_ (fun K hK => ?_)
                       rfl
                       go_simp
                       with_reducible refine hK _ _ ?_
                       clear hK K)
                  first | with_reducible refine sc0 (fun K hK => ?_) | with_reducible refine sc1 (fun K hK => ?_) | with_reducible refine sc2 (fun K hK => ?_) | with_reducible refine sc3 (fun K hK => ?_) | with_reducible refine sc4 (fun K hK => ?_)
                  go_simp
                  refine (HC2.out _ (HWX.out _ HV1.out)).mono ?_
                  clear c0 c1 c2 d0 d1 d2 x0 x1 x2 p0 p1 p2 r0 r1 r2 z0 z1 z2
                  rintro e v2 ⟨rfl, hb9⟩
                  refine ⟨hb9, hK _ _ ?_⟩
                  clear hK K
                  have HV2 := Lib.hid (HV1.out.trans (hb9.mono (HLE.out _ HV1.out)))
                  clear hb9
                  obtain ⟨⟨⟨c0, c1, c2⟩, ⟨d0, d1, d2⟩⟩, ⟨x0, x1, x2⟩, ⟨p0, p1, p2⟩, ⟨r0, r1, r2⟩, ⟨z0, z1, z2⟩⟩ := HCELL4.out v2 HV2.out
                  repeat
                    first
                    | (first | with_reducible refine sp0 (fun K hK => ?_) | with_reducible refine sp1 (fun K hK => ?_) | with_reducible refine sp2 (fun K hK => ?_) | with_reducible refine sp3 (fun K hK => ?_) | with_reducible refine sp4 (fun K hK => ?_)
                       go_simp
                       first
                       | (with_reducible refine hK _ _ ?_; clear hK K)
                       | (with_reducible apply Exists.intro
                          refine ⟨fun x hx => ?_, hK _ _ ?_⟩
                          first
                            | (with_reducible exact rfl)
                            | (have y0 := keepc hx c0; have y1 := keepc hx c1; have y2 := keepc hx c2; have y3 := keepc hx d0; have y4 := keepc hx d1; have y5 := keepc hx d2; have y6 := keepc hx x0; have y7 := keepc hx x1; have y8 := keepc hx x2; have y9 := keepc hx p0; have y10 := keepc hx p1; have y11 := keepc hx p2; have y12 := keepc hx r0; have y13 := keepc hx r1; have y14 := keepc hx r2; have y15 := keepc hx z0; have y16 := keepc hx z1; have y17 := keepc hx z2; go_simp; done)
                            | (have y0 := keepc hx c0; have y1 := keepc hx c1; have y2 := keepc hx c2; have y3 := keepc hx d0; have y4 := keepc hx d1; have y5 := keepc hx d2; have y6 := keepc hx x0; have y7 := keepc hx x1; have y8 := keepc hx x2; have y9 := keepc hx p0; have y10 := keepc hx p1; have y11 := keepc hx p2; have y12 := keepc hx r0; have y13 := keepc hx r1; have y14 := keepc hx r2; have y15 := keepc hx z0; have y16 := keepc hx z1; have y17 := keepc hx z2; go_simp; with_reducible exact rfl)
                          clear hK K))
                    | (first | with_reducible refine sk0 ?_ (fun K hK => ?_) | with_reducible refine sk1 ?_ (fun K hK => ?_) | with_reducible refine sk2 ?_ (fun K hK => ?_) | with_reducible refine sk3 ?_ (fun K hK => ?_) | with_reducible refine sk4 ?_ (fun K hK => ?_)
                       rfl
                       go_simp
                       with_reducible refine hK _ _ ?_
                       clear hK K)
                  with_reducible refine seq_nil ?_
                  clear c0 c1 c2 d0 d1 d2 x0 x1 x2 p0 p1 p2 r0 r1 r2 z0 z1 z2
                  go_wp2_with fail
                  go_ret
                  exact ⟨ret_boolT (by rw [HR.out]; rfl), HWX.out _ HV2.out⟩
              · have g9 : (kk == 9) = false := by simp [h9]
                have HR := Lib.hid (HL9.out h9)
                clear h9
                go_upto_region 10 with (first | (go_at_call 29; refine (HLF.out _).mono ?_; clear c0 c1 c2 d0 d1 d2; rintro e w3 ⟨rfl, hb⟩; have HB3 := Lib.hid (show Below (w.heap.size + 1 + 1) W2 w3 from hb.mono (Nat.le_of_eq HS2.out.symm)); clear hb; obtain ⟨⟨c0, c1, c2⟩, ⟨d0, d1, d2⟩⟩ := HCELL.out _ HB3.out) | (go_at_call 31; refine (HLK.out _).mono ?_; clear c0 c1 c2 d0 d1 d2; rintro e w4 ⟨rfl, hb⟩; have HB4 := Lib.hid (show Below (w.heap.size + 1 + 1) W2 w4 from HB3.out.trans (hb.mono (by have := HB3.out.size; have := HS2.out; omega))); clear hb; obtain ⟨⟨c0, c1, c2⟩, ⟨d0, d1, d2⟩⟩ := HCELL.out _ HB4.out))
                clear c0 c1 c2 d0 d1 d2
                go_wp2_with fail
                go_loopg [9] m' (fun gk i wr => ∃ k : Nat, k ≤ m' ∧ i = .int .i64 k ∧ sds .n (t.kids.take k) (u.kids.take k) = true ∧ Below (w.heap.size + 1 + 1) W2 wr ∧ gk = m' - k)
                case atStart => exact ⟨0, Nat.zero_le _, rfl, rfl, HB4.out, rfl⟩
                case round =>
                  obtain ⟨k, hk, rfl, hw, hb, rfl⟩ := hrel
                  obtain ⟨⟨c0, c1, c2⟩, ⟨d0, d1, d2⟩⟩ := HCELL.out _ hb
                  have hbw : Below w.heap.size w wr := HB2.out.trans (hb.mono (by omega))
                  have HBB := Lib.hid hb; have HBW := Lib.hid hbw; have HW := Lib.hid hw; clear hb hbw hw
                  by_cases hlt : k < m'
                  · have hkl : k < t.kids.length := by rw [HM.out]; exact hlt
                    have hkl' : k < u.kids.length := by rw [HM'.out]; exact hlt
                    obtain ⟨b, o, xa, xcap, rfl, hbn, hx, x0, x1, x2⟩ := kid_at HTY.out HBW.out (Nat.le_refl _) hkl
                    obtain ⟨b', o', ya, ycap, rfl, hbn', hy, y0, y1, y2⟩ := kid_at HTY'.out HBW.out (Nat.le_refl _) hkl'
                    have hst := sds_take .n t.kids u.kids k hkl hkl'
                    have hge := sds_get .n t.kids u.kids k hkl hkl'
                    have hcall1 := IH.out true t.kids[k] u.kids[k] xa xcap ya ycap wr.drew (by have := (sms_kid k k hkl hkl').1; have := HN.out; omega) (rights_at (kids_right HRT.out) k hkl) (rights_at (kids_right HRU.out) k hkl') (hx.below ((Below.refl wr.heap.size wr).drew) (fun _ h => h) (fun _ h => h)) (hy.below ((Below.refl wr.heap.size wr).drew) (fun _ h => h) (fun _ h => h))
                    simp only [if_true] at hcall1
                    unfold tv at hcall1
                    obtain ⟨x, hx'⟩ : ∃ x, t.kids[k] = x := ⟨_, rfl⟩
                    obtain ⟨y, hy'⟩ : ∃ x, u.kids[k] = x := ⟨_, rfl⟩
                    rw [hx'] at x0 x1 x2 hcall1 hst hge
                    rw [hy'] at y0 y1 y2 hcall1 hst hge
                    obtain ⟨s2, hs2⟩ : ∃ s1, Tp.sd .n x y = s1 := ⟨_, rfl⟩
                    rw [hs2] at hcall1 hst hge
                    have HST := Lib.hid hst; have HC := Lib.hid hcall1; have HGE := Lib.hid hge
                    clear hst hcall1 hx hx' hy hy' hs2 hge
                    cases s2 with
                    | true =>
                      go_wp2_with fail
                      go_still_tail 11, (by kernel_rfl)
                      go_wp2_with (go_at_call 13; refine HC.out.mono ?_; rintro e w' ⟨rfl, hb'⟩)
                      have hb2 := below_undrew hb'
                      go_roundg (m' - (k + 1))
                      case measure => omega
                      case rel => exact ⟨k + 1, by omega, by go_num, by rw [HST.out, HW.out]; rfl, HBB.out.trans (hb2.mono (by have := HBB.out.size; have := HS2.out; omega)), rfl⟩
                    | false =>
                      go_wp2_with fail
                      go_still_tail 11, (by kernel_rfl)
                      go_wp2_with (go_at_call 13; refine HC.out.mono ?_; rintro e w' ⟨rfl, hb'⟩)
                      have hb2 := below_undrew hb'
                      go_ret
                      exact ⟨ret_boolT (by rw [HR.out]; exact (HGE.out trivial).symm), HBW.out.trans (hb2.mono HBW.out.size)⟩
                  · obtain rfl : k = m' := by omega
                    go_wp2_with fail
                    go_ret
                    exact ⟨ret_boolT (by rw [HR.out, ← HW.out, List.take_of_length_le (by rw [HM.out]; exact Nat.le_refl _), List.take_of_length_le (by rw [HM'.out]; exact Nat.le_refl _)]), HBW.out⟩
    | false =>
      simp only [Bool.false_eq_true, if_false]
      obtain ⟨q1, q2, q3, q4, q5⟩ := page_sub hrt hru .p
      rw [hv.1, hv.2.2, hv'.1] at q4; rw [hv.1, hv'.1] at q2 q5; rw [hv.1] at q3
      obtain ⟨res, hres⟩ : ∃ res, Tp.sd .p t u = res := ⟨_, rfl⟩
      rw [hres] at HPP
      rw [hres] at q1 q2 q3 q4 ⊢
      have Q1 := Lib.hid q1; have Q2 := Lib.hid q2; have Q3 := Lib.hid q3; have Q4 := Lib.hid q4; have Q5 := Lib.hid q5
      clear q1 q2 q3 q4 q5 hrt hru hty hty' hv hv' hres
      go_enter Try.func13, Try.ntmps13
      go_upto_region 1 with fail
      rw [HW2.out]
      by_cases h6 : kk' = 5
      · have g6 : (kk' == 5) = true := by simp [h6]
        have HRES := Lib.hid (HPP.out h6); clear h6
        go_wp2_with fail
        go_ret
        exact ⟨ret_boolT HRES.out.symm, HB2.out⟩
      · have g6 : (kk' == 5) = false := by simp [h6]
        obtain ⟨lf_, hlf_⟩ : ∃ b, leafB t u = b := ⟨_, rfl⟩
        rw [hlf_] at HLF Q1 Q2 Q5
        cases lf_ with
        | true =>
          have HRES := Lib.hid (Q1.out rfl)
          clear hlf_
          go_wp2_with (go_at_call 29; refine (HLF.out _).mono ?_; clear c0 c1 c2 d0 d1 d2; rintro e w3 ⟨rfl, hb⟩; have HB3 := Lib.hid (show Below (w.heap.size + 1 + 1) W2 w3 from hb.mono (Nat.le_of_eq HS2.out.symm)); clear hb)
          go_ret
          exact ⟨ret_boolT HRES.out.symm, HB2.out.trans (HB3.out.mono (by omega))⟩
        | false =>
          have HNOL := Lib.hid (fun h => Q2.out rfl h (fun h => by cases h) h6)
          clear h6
          obtain ⟨lk_, hlk_⟩ : ∃ b, likeB t u = b := ⟨_, rfl⟩
          rw [hlk_] at HLK Q3 HNOL
          cases lk_ with
          | false =>
            have HRES := Lib.hid (HNOL.out rfl)
            clear hlk_ hlf_
            go_wp2_with (first | (go_at_call 29; refine (HLF.out _).mono ?_; clear c0 c1 c2 d0 d1 d2; rintro e w3 ⟨rfl, hb⟩; have HB3 := Lib.hid (show Below (w.heap.size + 1 + 1) W2 w3 from hb.mono (Nat.le_of_eq HS2.out.symm)); clear hb; obtain ⟨⟨c0, c1, c2⟩, ⟨d0, d1, d2⟩⟩ := HCELL.out _ HB3.out) | (go_at_call 31; refine (HLK.out _).mono ?_; clear c0 c1 c2 d0 d1 d2; rintro e w4 ⟨rfl, hb⟩; have HB4 := Lib.hid (show Below (w.heap.size + 1 + 1) W2 w4 from HB3.out.trans (hb.mono (by have := HB3.out.size; have := HS2.out; omega))); clear hb; obtain ⟨⟨c0, c1, c2⟩, ⟨d0, d1, d2⟩⟩ := HCELL.out _ HB4.out))
            go_ret
            exact ⟨ret_boolT HRES.out.symm, HB2.out.trans (HB4.out.mono (by omega))⟩
          | true =>
            obtain ⟨hlen, hf9, hl9⟩ := Q3.out rfl
            have hmm : m' = m := by rw [← HM.out, ← HM'.out, hlen]
            subst hmm
            have HF9 := Lib.hid hf9; have HL9 := Lib.hid hl9
            clear hlk_ hlf_ hlen hf9 hl9
            by_cases h9 : kk = 9
            · have g9 : (kk == 9) = true := by simp [h9]
              have H9 := Lib.hid h9; clear h9
              go_upto_region 9 with (first | (go_at_call 29; refine (HLF.out _).mono ?_; clear c0 c1 c2 d0 d1 d2; rintro e w3 ⟨rfl, hb⟩; have HB3 := Lib.hid (show Below (w.heap.size + 1 + 1) W2 w3 from hb.mono (Nat.le_of_eq HS2.out.symm)); clear hb; obtain ⟨⟨c0, c1, c2⟩, ⟨d0, d1, d2⟩⟩ := HCELL.out _ HB3.out) | (go_at_call 31; refine (HLK.out _).mono ?_; clear c0 c1 c2 d0 d1 d2; rintro e w4 ⟨rfl, hb⟩; have HB4 := Lib.hid (show Below (w.heap.size + 1 + 1) W2 w4 from HB3.out.trans (hb.mono (by have := HB3.out.size; have := HS2.out; omega))); clear hb; obtain ⟨⟨c0, c1, c2⟩, ⟨d0, d1, d2⟩⟩ := HCELL.out _ HB4.out))
              obtain ⟨h22, hf⟩ := HF9.out H9.out
              have hm2 : m' = 2 := by rw [← HM.out]; exact h22
              have l0 : 0 < t.kids.length := by omega
              have l1 : 1 < t.kids.length := by omega
              have l0' : 0 < u.kids.length := by rw [HM'.out]; omega
              have l1' : 1 < u.kids.length := by rw [HM'.out]; omega
              have hr := hf l0 l0' l1 l1'
              have hbw : Below w.heap.size w w4.drew := HB2.out.trans ((HB4.out.drew).mono (by omega))
              obtain ⟨b, o, xa, xcap, xk, xn, xm, rfl, hbn, hvx, htx, hcx⟩ := kid_tv HTY.out (Nat.le_refl _) l0
              obtain ⟨b2, o2, xa2, xcap2, xk2, xn2, xm2, he, -, hvx2, htx2, hcx2⟩ := kid_tv HTY.out (Nat.le_refl _) l1
              injection he with he; injection he with he1 he2; subst he1 he2
              obtain ⟨b', o', ya, ycap, yk, yn, ym, rfl, hbn', hvy, hty_, hcy⟩ := kid_tv HTY'.out (Nat.le_refl _) l0'
              obtain ⟨b3, o3, ya2, ycap2, yk2, yn2, ym2, he, -, hvy2, hty2, hcy2⟩ := kid_tv HTY'.out (Nat.le_refl _) l1'
              injection he with he; injection he with he1 he2; subst he1 he2
              have hc1 := fun x (h : Below w.heap.size w x) => IH.out true u.kids[0] t.kids[0] ya ycap xa xcap x (by have := (sms_kid 0 0 l0 l0').2; have := HN.out; omega) (rights_at (kids_right HRU.out) 0 l0') (rights_at (kids_right HRT.out) 0 l0) (hty_ x h) (htx x h)
              have hc2 := fun x (h : Below w.heap.size w x) => IH.out false t.kids[1] u.kids[1] xa2 xcap2 ya2 ycap2 x (by have := (sms_kid 1 1 l1 l1').1; have := HN.out; omega) (rights_at (kids_right HRT.out) 1 l1) (rights_at (kids_right HRU.out) 1 l1') (htx2 x h) (hty2 x h)
              have e1 := tv_of (a := xa) (c := xcap) hvx; have e2 := tv_of (a := xa2) (c := xcap2) hvx2; have e3 := tv_of (a := ya) (c := ycap) hvy; have e4 := tv_of (a := ya2) (c := ycap2) hvy2
              simp only [e1, e2, e3, e4, if_true, Bool.false_eq_true, if_false] at hc1 hc2
              have hr' : res = (Tp.sd .n u.kids[0] t.kids[0] && Tp.sd .p t.kids[1] u.kids[1]) := hr
              obtain ⟨s1, hs1⟩ : ∃ z, Tp.sd .n u.kids[0] t.kids[0] = z := ⟨_, rfl⟩
              obtain ⟨s2, hs2⟩ : ∃ z, Tp.sd .p t.kids[1] u.kids[1] = z := ⟨_, rfl⟩
              rw [hs1] at hc1 hr'; rw [hs2] at hc2 hr'
              have HC1 := Lib.hid hc1; have HC2 := Lib.hid hc2; have HR := Lib.hid hr'
              have HCK := Lib.hid (fun x (h : Below w.heap.size w x) => (⟨hcx x h, hcx2 x h, hcy x h, hcy2 x h⟩ : _ ∧ _ ∧ _ ∧ _))
              have HWX := Lib.hid (fun x (h : Below w4.heap.size w4 x) => (show Below w.heap.size w x from HB2.out.trans ((HB4.out.trans (h.mono (by have := HB4.out.size; have := HS2.out; omega))).mono (by omega))))
              have HCELL4 := Lib.hid (fun x (h : Below w4.heap.size w4 x) => (⟨HCELL.out x (HB4.out.trans (h.mono (by have := HB4.out.size; have := HS2.out; omega))), HCK.out x (HWX.out x h)⟩ : _ ∧ _))
              have HLE := Lib.hid (fun x (h : Below w4.heap.size w4 x) => h.size)
              have HBd := Lib.hid (Below.refl w4.heap.size w4).drew
              simp only [Nat.zero_mul, Nat.add_zero, Nat.one_mul] at HCELL4
              have i0 : (0 : Int) < (m' : Int) := by omega
              have i1 : (1 : Int) < (m' : Int) := by omega
              clear hc1 hc2 hr hr' hf hs1 hs2 hcx hcx2 hcy hcy2 htx htx2 hty_ hty2 hvx hvx2 hvy hvy2 e1 e2 e3 e4 l0 l1 l0' l1' h22 hbn hbn' hbw c0 c1 c2 d0 d1 d2
              subst hm2
              obtain ⟨⟨⟨c0, c1, c2⟩, ⟨d0, d1, d2⟩⟩, ⟨x0, x1, x2⟩, ⟨p0, p1, p2⟩, ⟨r0, r1, r2⟩, ⟨z0, z1, z2⟩⟩ := HCELL4.out _ HBd.out
              cases s1 with
              | false =>
                refine wp_region_seq [(0, false), (0, false), (0, false), (0, false), (0, false), (0, false), (0, false), (0, false), (0, false), (0, false), (0, true), (0, false), (0, false), (0, false), (0, false), (0, false), (0, false), (0, false), (0, false), (0, false), (0, false), (0, true), (0, false), (0, false)] (by kernel_rfl) (by kernel_rfl) (by kernel_rfl) (fun _ _ _ d _ h => by cases d <;> exact h) ?_
                repeat
                  first
                  | (first | with_reducible refine sp0 (fun K hK => ?_) | with_reducible refine sp1 (fun K hK => ?_) | with_reducible refine sp2 (fun K hK => ?_) | with_reducible refine sp3 (fun K hK => ?_) | with_reducible refine sp4 (fun K hK => ?_)
                     go_simp
                     first
                     | (with_reducible refine hK _ _ ?_; clear hK K)
                     | (with_reducible apply Exists.intro
                        refine ⟨fun x hx => ?_, hK _ _ ?_⟩
                        first
                          | (with_reducible exact rfl)
                          | (have y0 := keepc hx c0; have y1 := keepc hx c1; have y2 := keepc hx c2; have y3 := keepc hx d0; have y4 := keepc hx d1; have y5 := keepc hx d2; have y6 := keepc hx x0; have y7 := keepc hx x1; have y8 := keepc hx x2; have y9 := keepc hx p0; have y10 := keepc hx p1; have y11 := keepc hx p2; have y12 := keepc hx r0; have y13 := keepc hx r1; have y14 := keepc hx r2; have y15 := keepc hx z0; have y16 := keepc hx z1; have y17 := keepc hx z2; go_simp; done)
                          | (have y0 := keepc hx c0; have y1 := keepc hx c1; have y2 := keepc hx c2; have y3 := keepc hx d0; have y4 := keepc hx d1; have y5 := keepc hx d2; have y6 := keepc hx x0; have y7 := keepc hx x1; have y8 := keepc hx x2; have y9 := keepc hx p0; have y10 := keepc hx p1; have y11 := keepc hx p2; have y12 := keepc hx r0; have y13 := keepc hx r1; have y14 := keepc hx r2; have y15 := keepc hx z0; have y16 := keepc hx z1; have y17 := keepc hx z2; go_simp; with_reducible exact rfl)
                        clear hK K))
                  | (first | with_reducible refine sk0 ?_ (fun K hK => ?_) | with_reducible refine sk1 ?_ (fun K hK => ?_) | with_reducible refine sk2 ?_ (fun K hK => ?_) | with_reducible refine sk3 ?_ (fun K hK => ?_) | with_reducible refine sk4 ?_ (fun K hK => ?_)
                     rfl
                     go_simp
                     with_reducible refine hK _ _ ?_
                     clear hK K)
                first | with_reducible refine sc0 (fun K hK => ?_) | with_reducible refine sc1 (fun K hK => ?_) | with_reducible refine sc2 (fun K hK => ?_) | with_reducible refine sc3 (fun K hK => ?_) | with_reducible refine sc4 (fun K hK => ?_)
                go_simp
                refine (HC1.out _ (HWX.out _ HBd.out)).mono ?_
                clear c0 c1 c2 d0 d1 d2 x0 x1 x2 p0 p1 p2 r0 r1 r2 z0 z1 z2
                rintro e v1 ⟨rfl, hb9⟩
                refine ⟨hb9, hK _ _ ?_⟩
                clear hK K
                have HV1 := Lib.hid (HBd.out.trans (hb9.mono (HLE.out _ HBd.out)))
                clear hb9
                obtain ⟨⟨⟨c0, c1, c2⟩, ⟨d0, d1, d2⟩⟩, ⟨x0, x1, x2⟩, ⟨p0, p1, p2⟩, ⟨r0, r1, r2⟩, ⟨z0, z1, z2⟩⟩ := HCELL4.out v1 HV1.out
                repeat
                  first
                  | (first | with_reducible refine sp0 (fun K hK => ?_) | with_reducible refine sp1 (fun K hK => ?_) | with_reducible refine sp2 (fun K hK => ?_) | with_reducible refine sp3 (fun K hK => ?_) | with_reducible refine sp4 (fun K hK => ?_)
                     go_simp
                     first
                     | (with_reducible refine hK _ _ ?_; clear hK K)
                     | (with_reducible apply Exists.intro
                        refine ⟨fun x hx => ?_, hK _ _ ?_⟩
                        first
                          | (with_reducible exact rfl)
                          | (have y0 := keepc hx c0; have y1 := keepc hx c1; have y2 := keepc hx c2; have y3 := keepc hx d0; have y4 := keepc hx d1; have y5 := keepc hx d2; have y6 := keepc hx x0; have y7 := keepc hx x1; have y8 := keepc hx x2; have y9 := keepc hx p0; have y10 := keepc hx p1; have y11 := keepc hx p2; have y12 := keepc hx r0; have y13 := keepc hx r1; have y14 := keepc hx r2; have y15 := keepc hx z0; have y16 := keepc hx z1; have y17 := keepc hx z2; go_simp; done)
                          | (have y0 := keepc hx c0; have y1 := keepc hx c1; have y2 := keepc hx c2; have y3 := keepc hx d0; have y4 := keepc hx d1; have y5 := keepc hx d2; have y6 := keepc hx x0; have y7 := keepc hx x1; have y8 := keepc hx x2; have y9 := keepc hx p0; have y10 := keepc hx p1; have y11 := keepc hx p2; have y12 := keepc hx r0; have y13 := keepc hx r1; have y14 := keepc hx r2; have y15 := keepc hx z0; have y16 := keepc hx z1; have y17 := keepc hx z2; go_simp; with_reducible exact rfl)
                        clear hK K))
                  | (first | with_reducible refine sk0 ?_ (fun K hK => ?_) | with_reducible refine sk1 ?_ (fun K hK => ?_) | with_reducible refine sk2 ?_ (fun K hK => ?_) | with_reducible refine sk3 ?_ (fun K hK => ?_) | with_reducible refine sk4 ?_ (fun K hK => ?_)
                     rfl
                     go_simp
                     with_reducible refine hK _ _ ?_
                     clear hK K)
                with_reducible refine seq_nil ?_
                clear c0 c1 c2 d0 d1 d2 x0 x1 x2 p0 p1 p2 r0 r1 r2 z0 z1 z2
                go_wp2_with fail
                go_ret
                exact ⟨ret_boolT (by rw [HR.out]; rfl), HWX.out _ HV1.out⟩
              | true =>
                refine wp_region_seq [(0, false), (0, false), (0, false), (0, false), (0, false), (0, false), (0, false), (0, false), (0, false), (0, false), (0, true), (0, false), (0, false), (0, false), (0, false), (0, false), (0, false), (0, false), (0, false), (0, false), (0, false), (0, true), (0, false), (0, false)] (by kernel_rfl) (by kernel_rfl) (by kernel_rfl) (fun _ _ _ d _ h => by cases d <;> exact h) ?_
                repeat
                  first
                  | (first | with_reducible refine sp0 (fun K hK => ?_) | with_reducible refine sp1 (fun K hK => ?_) | with_reducible refine sp2 (fun K hK => ?_) | with_reducible refine sp3 (fun K hK => ?_) | with_reducible refine sp4 (fun K hK => ?_)
                     go_simp
                     first
                     | (with_reducible refine hK _ _ ?_; clear hK K)
                     | (with_reducible apply Exists.intro
                        refine ⟨fun x hx => ?_, hK _ _ ?_⟩
                        first
                          | (with_reducible exact rfl)
                          | (have y0 := keepc hx c0; have y1 := keepc hx c1; have y2 := keepc hx c2; have y3 := keepc hx d0; have y4 := keepc hx d1; have y5 := keepc hx d2; have y6 := keepc hx x0; have y7 := keepc hx x1; have y8 := keepc hx x2; have y9 := keepc hx p0; have y10 := keepc hx p1; have y11 := keepc hx p2; have y12 := keepc hx r0; have y13 := keepc hx r1; have y14 := keepc hx r2; have y15 := keepc hx z0; have y16 := keepc hx z1; have y17 := keepc hx z2; go_simp; done)
                          | (have y0 := keepc hx c0; have y1 := keepc hx c1; have y2 := keepc hx c2; have y3 := keepc hx d0; have y4 := keepc hx d1; have y5 := keepc hx d2; have y6 := keepc hx x0; have y7 := keepc hx x1; have y8 := keepc hx x2; have y9 := keepc hx p0; have y10 := keepc hx p1; have y11 := keepc hx p2; have y12 := keepc hx r0; have y13 := keepc hx r1; have y14 := keepc hx r2; have y15 := keepc hx z0; have y16 := keepc hx z1; have y17 := keepc hx z2; go_simp; with_reducible exact rfl)
                        clear hK K))
                  | (first | with_reducible refine sk0 ?_ (fun K hK => ?_) | with_reducible refine sk1 ?_ (fun K hK => ?_) | with_reducible refine sk2 ?_ (fun K hK => ?_) | with_reducible refine sk3 ?_ (fun K hK => ?_) | with_reducible refine sk4 ?_ (fun K hK => ?_)
                     rfl
                     go_simp
                     with_reducible refine hK _ _ ?_
                     clear hK K)
                first | with_reducible refine sc0 (fun K hK => ?_) | with_reducible refine sc1 (fun K hK => ?_) | with_reducible refine sc2 (fun K hK => ?_) | with_reducible refine sc3 (fun K hK => ?_) | with_reducible refine sc4 (fun K hK => ?_)
                go_simp
                refine (HC1.out _ (HWX.out _ HBd.out)).mono ?_
                clear c0 c1 c2 d0 d1 d2 x0 x1 x2 p0 p1 p2 r0 r1 r2 z0 z1 z2
                rintro e v1 ⟨rfl, hb9⟩
                refine ⟨hb9, hK _ _ ?_⟩
                clear hK K
                have HV1 := Lib.hid (HBd.out.trans (hb9.mono (HLE.out _ HBd.out)))
                clear hb9
                obtain ⟨⟨⟨c0, c1, c2⟩, ⟨d0, d1, d2⟩⟩, ⟨x0, x1, x2⟩, ⟨p0, p1, p2⟩, ⟨r0, r1, r2⟩, ⟨z0, z1, z2⟩⟩ := HCELL4.out v1 HV1.out
                repeat
                  first
                  | (first | with_reducible refine sp0 (fun K hK => ?_) | with_reducible refine sp1 (fun K hK => ?_) | with_reducible refine sp2 (fun K hK => ?_) | with_reducible refine sp3 (fun K hK => ?_) | with_reducible refine sp4 (fun K hK => ?_)
                     go_simp
                     first
                     | (with_reducible refine hK _ _ ?_; clear hK K)
                     | (with_reducible apply Exists.intro
                        refine ⟨fun x hx => ?_, hK _ _ ?_⟩
                        first
                          | (with_reducible exact rfl)
                          | (have y0 := keepc hx c0; have y1 := keepc hx c1; have y2 := keepc hx c2; have y3 := keepc hx d0; have y4 := keepc hx d1; have y5 := keepc hx d2; have y6 := keepc hx x0; have y7 := keepc hx x1; have y8 := keepc hx x2; have y9 := keepc hx p0; have y10 := keepc hx p1; have y11 := keepc hx p2; have y12 := keepc hx r0; have y13 := keepc hx r1; have y14 := keepc hx r2; have y15 := keepc hx z0; have y16 := keepc hx z1; have y17 := keepc hx z2; go_simp; done)
                          | (have y0 := keepc hx c0; have y1 := keepc hx c1; have y2 := keepc hx c2; have y3 := keepc hx d0; have y4 := keepc hx d1; have y5 := keepc hx d2; have y6 := keepc hx x0; have y7 := keepc hx x1; have y8 := keepc hx x2; have y9 := keepc hx p0; have y10 := keepc hx p1; have y11 := keepc hx p2; have y12 := keepc hx r0; have y13 := keepc hx r1; have y14 := keepc hx r2; have y15 := keepc hx z0; have y16 := keepc hx z1; have y17 := keepc hx z2; go_simp; with_reducible exact rfl)
                        clear hK K))
                  | (first | with_reducible refine sk0 ?_ (fun K hK => ?_) | with_reducible refine sk1 ?_ (fun K hK => ?_) | with_reducible refine sk2 ?_ (fun K hK => ?_) | with_reducible refine sk3 ?_ (fun K hK => ?_) | with_reducible refine sk4 ?_ (fun K hK => ?_)
                     rfl
                     go_simp
                     with_reducible refine hK _ _ ?_
                     clear hK K)
                first | with_reducible refine sc0 (fun K hK => ?_) | with_reducible refine sc1 (fun K hK => ?_) | with_reducible refine sc2 (fun K hK => ?_) | with_reducible refine sc3 (fun K hK => ?_) | with_reducible refine sc4 (fun K hK => ?_)
                go_simp
                refine (HC2.out _ (HWX.out _ HV1.out)).mono ?_
                clear c0 c1 c2 d0 d1 d2 x0 x1 x2 p0 p1 p2 r0 r1 r2 z0 z1 z2
                rintro e v2 ⟨rfl, hb9⟩
                refine ⟨hb9, hK _ _ ?_⟩
                clear hK K
                have HV2 := Lib.hid (HV1.out.trans (hb9.mono (HLE.out _ HV1.out)))
                clear hb9
                obtain ⟨⟨⟨c0, c1, c2⟩, ⟨d0, d1, d2⟩⟩, ⟨x0, x1, x2⟩, ⟨p0, p1, p2⟩, ⟨r0, r1, r2⟩, ⟨z0, z1, z2⟩⟩ := HCELL4.out v2 HV2.out
                repeat
                  first
                  | (first | with_reducible refine sp0 (fun K hK => ?_) | with_reducible refine sp1 (fun K hK => ?_) | with_reducible refine sp2 (fun K hK => ?_) | with_reducible refine sp3 (fun K hK => ?_) | with_reducible refine sp4 (fun K hK => ?_)
                     go_simp
                     first
                     | (with_reducible refine hK _ _ ?_; clear hK K)
                     | (with_reducible apply Exists.intro
                        refine ⟨fun x hx => ?_, hK _ _ ?_⟩
                        first
                          | (with_reducible exact rfl)
                          | (have y0 := keepc hx c0; have y1 := keepc hx c1; have y2 := keepc hx c2; have y3 := keepc hx d0; have y4 := keepc hx d1; have y5 := keepc hx d2; have y6 := keepc hx x0; have y7 := keepc hx x1; have y8 := keepc hx x2; have y9 := keepc hx p0; have y10 := keepc hx p1; have y11 := keepc hx p2; have y12 := keepc hx r0; have y13 := keepc hx r1; have y14 := keepc hx r2; have y15 := keepc hx z0; have y16 := keepc hx z1; have y17 := keepc hx z2; go_simp; done)
                          | (have y0 := keepc hx c0; have y1 := keepc hx c1; have y2 := keepc hx c2; have y3 := keepc hx d0; have y4 := keepc hx d1; have y5 := keepc hx d2; have y6 := keepc hx x0; have y7 := keepc hx x1; have y8 := keepc hx x2; have y9 := keepc hx p0; have y10 := keepc hx p1; have y11 := keepc hx p2; have y12 := keepc hx r0; have y13 := keepc hx r1; have y14 := keepc hx r2; have y15 := keepc hx z0; have y16 := keepc hx z1; have y17 := keepc hx z2; go_simp; with_reducible exact rfl)
                        clear hK K))
                  | (first | with_reducible refine sk0 ?_ (fun K hK => ?_) | with_reducible refine sk1 ?_ (fun K hK => ?_) | with_reducible refine sk2 ?_ (fun K hK => ?_) | with_reducible refine sk3 ?_ (fun K hK => ?_) | with_reducible refine sk4 ?_ (fun K hK => ?_)
                     rfl
                     go_simp
                     with_reducible refine hK _ _ ?_
                     clear hK K)
                with_reducible refine seq_nil ?_
                clear c0 c1 c2 d0 d1 d2 x0 x1 x2 p0 p1 p2 r0 r1 r2 z0 z1 z2
                go_wp2_with fail
                go_ret
                exact ⟨ret_boolT (by rw [HR.out]; rfl), HWX.out _ HV2.out⟩
            · have g9 : (kk == 9) = false := by simp [h9]
              have HR := Lib.hid (HL9.out h9)
              clear h9
              go_upto_region 10 with (first | (go_at_call 29; refine (HLF.out _).mono ?_; clear c0 c1 c2 d0 d1 d2; rintro e w3 ⟨rfl, hb⟩; have HB3 := Lib.hid (show Below (w.heap.size + 1 + 1) W2 w3 from hb.mono (Nat.le_of_eq HS2.out.symm)); clear hb; obtain ⟨⟨c0, c1, c2⟩, ⟨d0, d1, d2⟩⟩ := HCELL.out _ HB3.out) | (go_at_call 31; refine (HLK.out _).mono ?_; clear c0 c1 c2 d0 d1 d2; rintro e w4 ⟨rfl, hb⟩; have HB4 := Lib.hid (show Below (w.heap.size + 1 + 1) W2 w4 from HB3.out.trans (hb.mono (by have := HB3.out.size; have := HS2.out; omega))); clear hb; obtain ⟨⟨c0, c1, c2⟩, ⟨d0, d1, d2⟩⟩ := HCELL.out _ HB4.out))
              clear c0 c1 c2 d0 d1 d2
              go_wp2_with fail
              go_loopg [9] m' (fun gk i wr => ∃ k : Nat, k ≤ m' ∧ i = .int .i64 k ∧ sds .p (t.kids.take k) (u.kids.take k) = true ∧ Below (w.heap.size + 1 + 1) W2 wr ∧ gk = m' - k)
              case atStart => exact ⟨0, Nat.zero_le _, rfl, rfl, HB4.out, rfl⟩
              case round =>
                obtain ⟨k, hk, rfl, hw, hb, rfl⟩ := hrel
                obtain ⟨⟨c0, c1, c2⟩, ⟨d0, d1, d2⟩⟩ := HCELL.out _ hb
                have hbw : Below w.heap.size w wr := HB2.out.trans (hb.mono (by omega))
                have HBB := Lib.hid hb; have HBW := Lib.hid hbw; have HW := Lib.hid hw; clear hb hbw hw
                by_cases hlt : k < m'
                · have hkl : k < t.kids.length := by rw [HM.out]; exact hlt
                  have hkl' : k < u.kids.length := by rw [HM'.out]; exact hlt
                  obtain ⟨b, o, xa, xcap, rfl, hbn, hx, x0, x1, x2⟩ := kid_at HTY.out HBW.out (Nat.le_refl _) hkl
                  obtain ⟨b', o', ya, ycap, rfl, hbn', hy, y0, y1, y2⟩ := kid_at HTY'.out HBW.out (Nat.le_refl _) hkl'
                  have hst := sds_take .p t.kids u.kids k hkl hkl'
                  have hge := sds_get .p t.kids u.kids k hkl hkl'
                  have hcall1 := IH.out false t.kids[k] u.kids[k] xa xcap ya ycap wr.drew (by have := (sms_kid k k hkl hkl').1; have := HN.out; omega) (rights_at (kids_right HRT.out) k hkl) (rights_at (kids_right HRU.out) k hkl') (hx.below ((Below.refl wr.heap.size wr).drew) (fun _ h => h) (fun _ h => h)) (hy.below ((Below.refl wr.heap.size wr).drew) (fun _ h => h) (fun _ h => h))
                  simp only [Bool.false_eq_true, if_false] at hcall1
                  unfold tv at hcall1
                  obtain ⟨x, hx'⟩ : ∃ x, t.kids[k] = x := ⟨_, rfl⟩
                  obtain ⟨y, hy'⟩ : ∃ x, u.kids[k] = x := ⟨_, rfl⟩
                  rw [hx'] at x0 x1 x2 hcall1 hst hge
                  rw [hy'] at y0 y1 y2 hcall1 hst hge
                  obtain ⟨s2, hs2⟩ : ∃ s1, Tp.sd .p x y = s1 := ⟨_, rfl⟩
                  rw [hs2] at hcall1 hst hge
                  have HST := Lib.hid hst; have HC := Lib.hid hcall1; have HGE := Lib.hid hge
                  clear hst hcall1 hx hx' hy hy' hs2 hge
                  cases s2 with
                  | true =>
                    go_wp2_with fail
                    go_still_tail 11, (by kernel_rfl)
                    go_wp2_with (go_at_call 13; refine HC.out.mono ?_; rintro e w' ⟨rfl, hb'⟩)
                    have hb2 := below_undrew hb'
                    go_roundg (m' - (k + 1))
                    case measure => omega
                    case rel => exact ⟨k + 1, by omega, by go_num, by rw [HST.out, HW.out]; rfl, HBB.out.trans (hb2.mono (by have := HBB.out.size; have := HS2.out; omega)), rfl⟩
                  | false =>
                    go_wp2_with fail
                    go_still_tail 11, (by kernel_rfl)
                    go_wp2_with (go_at_call 13; refine HC.out.mono ?_; rintro e w' ⟨rfl, hb'⟩)
                    have hb2 := below_undrew hb'
                    go_ret
                    exact ⟨ret_boolT (by rw [HR.out]; exact (HGE.out trivial).symm), HBW.out.trans (hb2.mono HBW.out.size)⟩
                · obtain rfl : k = m' := by omega
                  go_wp2_with fail
                  go_ret
                  exact ⟨ret_boolT (by rw [HR.out, ← HW.out, List.take_of_length_le (by rw [HM.out]; exact Nat.le_refl _), List.take_of_length_le (by rw [HM'.out]; exact Nat.le_refl _)]), HBW.out⟩
end Go.Proofs.Ytafekidkikfpcaa

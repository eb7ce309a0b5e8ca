/- Walks: the page's Right, Same; suretykeep's Same; rows of numbers. -/
import Derived.Test.YtaaapdfdedknfaaTrA
import Derived.StillTailTactics
namespace Go.Proofs.Ytaaapdfdedknfaa
open Go Go.RowKit
open Tp (T)

theorem rights_append : ∀ l m : List T, Tp.rights (l ++ m) = (Tp.rights l && Tp.rights m)
  | [], m => by simp [Tp.rights]
  | t :: r, m => by simp [Tp.rights, rights_append r m, Bool.and_assoc]
theorem rights_take (l : List T) (k : Nat) (h : k < l.length) : Tp.rights (l.take (k + 1)) = (Tp.rights (l.take k) && Tp.right l[k]) := by
  rw [List.take_succ_eq_append_getElem h, rights_append]; simp [Tp.rights]
theorem rights_get (l : List T) (k : Nat) (h : k < l.length) (hf : Tp.right l[k] = false) : Tp.rights l = false := by
  have e := rights_append (l.take (k + 1)) (l.drop (k + 1))
  rw [List.take_append_drop, rights_take l k h, hf] at e
  simpa using e
theorem right_kids (t : T) : Tp.right t = (Tp.nodeRight t.kind t.num t.kids.length && Tp.rights t.kids) := by cases t; rfl

theorem below_drewM {B : Nat} {a w : World} (h : Below B a w) (n : Nat) : Below B a (w.drewN n) := ⟨h.os, h.tape, h.output, h.size, h.block⟩

set_option maxRecDepth 100000 in
set_option maxHeartbeats 2000000 in
theorem rright_any : ∀ (n : Nat) (t : T) (a : Option Addr) (cap : Nat) (w : World), Tp.size t ≤ n → TyAt (LT w.heap.size) w t a cap →
    Calls Try.prog 24 #[tv t a cap] w fun e w' => e = .returned (.bool (Tp.right t)) ∧ Below w.heap.size w w' := by
  intro n
  induction n with
  | zero => intro t a cap w h; have := Tp.size_pos t; omega
  | succ n ih =>
    intro t a cap w hn hty
    have hm10 : (t.kids.length : Int) ≤ 9223372036854775807 := by have h1 := hty.2.2.1; have h2 := hty.2.2.2.1; unfold maxLen at h2; omega
    have HN := Lib.hid hn; have HTY := Lib.hid hty; have IH := Lib.hid ih; clear hn hty ih
    have hlen : ∃ m, t.kids.length = m := ⟨_, rfl⟩
    obtain ⟨m, hm⟩ := hlen
    obtain ⟨kk, hkk⟩ : ∃ kk, t.kind = kk := ⟨_, rfl⟩
    obtain ⟨nn, hnn⟩ : ∃ kk, t.num = kk := ⟨_, rfl⟩
    obtain ⟨res, hres⟩ : ∃ res, Tp.right t = res := ⟨_, rfl⟩
    obtain ⟨ar, har⟩ : ∃ ar, Tp.arity kk = ar := ⟨_, rfl⟩
    have h29 := fun w => kids_any kk w
    rw [har] at h29
    unfold tv
    rw [hm] at hm10 ⊢
    rw [hkk, hnn, hres]
    have hnr : res = (Tp.nodeRight kk nn m && Tp.rights t.kids) := by rw [← hres, right_kids, hkk, hnn, hm]
    have HM := Lib.hid hm; have HKK := Lib.hid hkk; have HNN := Lib.hid hnn; have HAR := Lib.hid har; have HRES := Lib.hid hres; have HNR := Lib.hid hnr; have H29 := Lib.hid h29; clear hm hkk hnn hres har hnr h29
    have hnode : Tp.nodeRight kk nn m = (decide (ar = m) && decide (0 ≤ nn) && decide (nn ≤ 1048576) && (decide (kk = 6) || decide (nn = 0))) := by unfold Tp.nodeRight; rw [HAR.out]
    have HNODE := Lib.hid hnode; clear hnode
    by_cases h1 : ar = m
    · have g1 : (ar != (m : Int)) = false := by simp [h1]
      by_cases h2 : 0 ≤ nn
      · have g2 : decide (nn < 0) = false := by simp; omega
        by_cases h3 : nn ≤ 1048576
        · have g3 : decide (1048576 < nn) = false := by simp; omega
          by_cases h4 : kk = 6
          · have g4 : (kk != 6) = false := by simp [h4]
            have hr : res = Tp.rights t.kids := by rw [HNR.out, HNODE.out]; simp [h1, h2, h3, h4]
            have HR := Lib.hid hr; have H1 := Lib.hid h1; have H2 := Lib.hid h2; have H3 := Lib.hid h3; have H4 := Lib.hid h4; clear hr h1 h2 h3 h4
            go_enter Try.func24, Try.ntmps24
            go_wp2_with fail
            go_quiet ((go_at_call 84; exact Calls.quiet_of_same ((H29.out _).mono fun e w' h => ⟨h.1, h.2.symm⟩)))
            go_wp2_with fail
            go_loopg [3] m (fun gk i wr => ∃ k : Nat, k ≤ m ∧ i = .int .i64 k ∧ Tp.rights (t.kids.take k) = true ∧ Below (w.heap.size + 1) (w.alloc (.cells #[.int .i64 kk, .int .i64 nn, .slice a m cap] 26)) wr ∧ gk = m - k)
            case atStart => exact ⟨0, Nat.zero_le _, rfl, rfl, below_drewM (Below.refl _ _) _, rfl⟩
            case round =>
              obtain ⟨k, hk, rfl, hw, hb, rfl⟩ := hrel
              have c2 : wr.cell? ⟨w.heap.size, 2, none⟩ = some (.slice a m cap) := cell_box (World.alloc_heap_new w _) (hb.block w.heap.size (by omega)) rfl
              have hbw : Below w.heap.size w wr := ((Below.refl _ _).alloc (Nat.le_refl _) _).trans (hb.mono (by omega))
              have HB := Lib.hid hb; have HBW := Lib.hid hbw; have HW := Lib.hid hw; clear hb hbw hw
              by_cases hlt : k < m
              · have hkl : k < t.kids.length := by rw [HM.out]; exact hlt
                obtain ⟨b, o, xa, xcap, rfl, hbn, hx, x0, x1, x2⟩ := kid_at HTY.out HBW.out (Nat.le_refl _) hkl
                have hst := rights_take t.kids k hkl
                have hge := rights_get t.kids k hkl
                have hsk := size_kid t.kids k hkl
                have hss := size_kids t
                have hcall := IH.out t.kids[k] xa xcap wr (by have := HN.out; omega) hx
                unfold tv at hcall
                obtain ⟨x, hx'⟩ : ∃ x, t.kids[k] = x := ⟨_, rfl⟩
                rw [hx'] at x0 x1 x2 hcall hst hge
                obtain ⟨s2, hs2⟩ : ∃ s1, Tp.right x = s1 := ⟨_, rfl⟩
                rw [hs2] at hcall hst hge
                have HST := Lib.hid hst; have HC := Lib.hid hcall; have HGE := Lib.hid hge
                clear hst hcall hsk hss hx hx' hs2 hge
                cases s2 with
                | true =>
                  go_wp2_with (go_at_call 24; refine HC.out.mono ?_; rintro e w' ⟨rfl, hb'⟩)
                  go_roundg (m - (k + 1))
                  case measure => omega
                  case rel => exact ⟨k + 1, by omega, by go_num, by rw [HST.out, HW.out]; rfl, HB.out.trans (hb'.mono (by have := HB.out.size; rw [World.size_alloc] at this; exact this)), rfl⟩
                | false =>
                  go_wp2_with (go_at_call 24; refine HC.out.mono ?_; rintro e w' ⟨rfl, hb'⟩)
                  go_ret
                  exact ⟨ret_boolT (by rw [HR.out]; exact (HGE.out trivial).symm), HBW.out.trans (hb'.mono HBW.out.size)⟩
              · obtain rfl : k = m := by omega
                go_wp2_with fail
                go_ret
                exact ⟨ret_boolT (by rw [HR.out, ← HW.out, List.take_of_length_le (by rw [HM.out]; exact Nat.le_refl _)]), HBW.out⟩
          · have g4 : (kk != 6) = true := by simp [h4]
            by_cases h5 : nn = 0
            · have g5 : (nn != 0) = false := by simp [h5]
              have hr : res = Tp.rights t.kids := by rw [HNR.out, HNODE.out]; simp [h1, h4, h5]
              have HR := Lib.hid hr; have H1 := Lib.hid h1; have H2 := Lib.hid h2; have H3 := Lib.hid h3; have H4 := Lib.hid h4; have H5 := Lib.hid h5; clear hr h1 h2 h3 h4 h5
              go_enter Try.func24, Try.ntmps24
              go_wp2_with fail
              go_quiet ((go_at_call 84; exact Calls.quiet_of_same ((H29.out _).mono fun e w' h => ⟨h.1, h.2.symm⟩)))
              go_wp2_with fail
              go_loopg [3] m (fun gk i wr => ∃ k : Nat, k ≤ m ∧ i = .int .i64 k ∧ Tp.rights (t.kids.take k) = true ∧ Below (w.heap.size + 1) (w.alloc (.cells #[.int .i64 kk, .int .i64 nn, .slice a m cap] 26)) wr ∧ gk = m - k)
              case atStart => exact ⟨0, Nat.zero_le _, rfl, rfl, below_drewM (Below.refl _ _) _, rfl⟩
              case round =>
                obtain ⟨k, hk, rfl, hw, hb, rfl⟩ := hrel
                have c2 : wr.cell? ⟨w.heap.size, 2, none⟩ = some (.slice a m cap) := cell_box (World.alloc_heap_new w _) (hb.block w.heap.size (by omega)) rfl
                have hbw : Below w.heap.size w wr := ((Below.refl _ _).alloc (Nat.le_refl _) _).trans (hb.mono (by omega))
                have HB := Lib.hid hb; have HBW := Lib.hid hbw; have HW := Lib.hid hw; clear hb hbw hw
                by_cases hlt : k < m
                · have hkl : k < t.kids.length := by rw [HM.out]; exact hlt
                  obtain ⟨b, o, xa, xcap, rfl, hbn, hx, x0, x1, x2⟩ := kid_at HTY.out HBW.out (Nat.le_refl _) hkl
                  have hst := rights_take t.kids k hkl
                  have hge := rights_get t.kids k hkl
                  have hsk := size_kid t.kids k hkl
                  have hss := size_kids t
                  have hcall := IH.out t.kids[k] xa xcap wr (by have := HN.out; omega) hx
                  unfold tv at hcall
                  obtain ⟨x, hx'⟩ : ∃ x, t.kids[k] = x := ⟨_, rfl⟩
                  rw [hx'] at x0 x1 x2 hcall hst hge
                  obtain ⟨s2, hs2⟩ : ∃ s1, Tp.right x = s1 := ⟨_, rfl⟩
                  rw [hs2] at hcall hst hge
                  have HST := Lib.hid hst; have HC := Lib.hid hcall; have HGE := Lib.hid hge
                  clear hst hcall hsk hss hx hx' hs2 hge
                  cases s2 with
                  | true =>
                    go_wp2_with (go_at_call 24; refine HC.out.mono ?_; rintro e w' ⟨rfl, hb'⟩)
                    go_roundg (m - (k + 1))
                    case measure => omega
                    case rel => exact ⟨k + 1, by omega, by go_num, by rw [HST.out, HW.out]; rfl, HB.out.trans (hb'.mono (by have := HB.out.size; rw [World.size_alloc] at this; exact this)), rfl⟩
                  | false =>
                    go_wp2_with (go_at_call 24; refine HC.out.mono ?_; rintro e w' ⟨rfl, hb'⟩)
                    go_ret
                    exact ⟨ret_boolT (by rw [HR.out]; exact (HGE.out trivial).symm), HBW.out.trans (hb'.mono HBW.out.size)⟩
                · obtain rfl : k = m := by omega
                  go_wp2_with fail
                  go_ret
                  exact ⟨ret_boolT (by rw [HR.out, ← HW.out, List.take_of_length_le (by rw [HM.out]; exact Nat.le_refl _)]), HBW.out⟩
            · have g5 : (nn != 0) = true := by simp [h5]
              have hr : res = false := by rw [HNR.out, HNODE.out]; simp [h4, h5]
              have HR := Lib.hid hr; have H1 := Lib.hid h1; have H2 := Lib.hid h2; have H3 := Lib.hid h3; have H4 := Lib.hid h4; have H5 := Lib.hid h5; clear hr h1 h2 h3 h4 h5
              go_enter Try.func24, Try.ntmps24
              go_wp2_with fail
              go_quiet ((go_at_call 84; exact Calls.quiet_of_same ((H29.out _).mono fun e w' h => ⟨h.1, h.2.symm⟩)))
              go_wp2_with fail
              go_ret
              exact ⟨ret_boolT HR.out.symm, below_drewM ((Below.refl _ _).alloc (Nat.le_refl _) _) _⟩
        · have g3 : decide (1048576 < nn) = true := by simp; omega
          have hr : res = false := by rw [HNR.out, HNODE.out]; simp [h3]
          have HR := Lib.hid hr; have H1 := Lib.hid h1; have H2 := Lib.hid h2; have H3 := Lib.hid h3; clear hr h1 h2 h3
          go_enter Try.func24, Try.ntmps24
          go_wp2_with fail
          go_quiet ((go_at_call 84; exact Calls.quiet_of_same ((H29.out _).mono fun e w' h => ⟨h.1, h.2.symm⟩)))
          go_wp2_with fail
          go_ret
          exact ⟨ret_boolT HR.out.symm, below_drewM ((Below.refl _ _).alloc (Nat.le_refl _) _) _⟩
      · have g2 : decide (nn < 0) = true := by simp; omega
        have hr : res = false := by rw [HNR.out, HNODE.out]; simp [h2]
        have HR := Lib.hid hr; have H1 := Lib.hid h1; have H2 := Lib.hid h2; clear hr h1 h2
        go_enter Try.func24, Try.ntmps24
        go_wp2_with fail
        go_quiet ((go_at_call 84; exact Calls.quiet_of_same ((H29.out _).mono fun e w' h => ⟨h.1, h.2.symm⟩)))
        go_wp2_with fail
        go_ret
        exact ⟨ret_boolT HR.out.symm, below_drewM ((Below.refl _ _).alloc (Nat.le_refl _) _) _⟩
    · have g1 : (ar != (m : Int)) = true := by simp [h1]
      have hr : res = false := by rw [HNR.out, HNODE.out]; simp [h1]
      have HR := Lib.hid hr; have H1 := Lib.hid h1; clear hr h1
      go_enter Try.func24, Try.ntmps24
      go_wp2_with fail
      go_quiet ((go_at_call 84; exact Calls.quiet_of_same ((H29.out _).mono fun e w' h => ⟨h.1, h.2.symm⟩)))
      go_wp2_with fail
      go_ret
      exact ⟨ret_boolT HR.out.symm, below_drewM ((Below.refl _ _).alloc (Nat.le_refl _) _) _⟩
end Go.Proofs.Ytaaapdfdedknfaa

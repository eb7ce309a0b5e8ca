/- Walks: the page's Same, suretykeep's Same. -/
import Derived.Test.YtaaapdfdedknfaaTrB
namespace Go.Proofs.Ytaaapdfdedknfaa
open Go Go.RowKit
open Tp (T)

theorem sames_append : ∀ (a b c d : List T), a.length = c.length → Tp.sames (a ++ b) (c ++ d) = (Tp.sames a c && Tp.sames b d)
  | [], b, [], d, _ => by simp [Tp.sames]
  | x :: r, b, y :: s, d, h => by
    simp only [List.cons_append, Tp.sames, sames_append r b s d (by simpa using h), Bool.and_assoc]
theorem sames_take (l m : List T) (k : Nat) (h : k < l.length) (h' : k < m.length) : Tp.sames (l.take (k + 1)) (m.take (k + 1)) = (Tp.sames (l.take k) (m.take k) && Tp.same l[k] m[k]) := by
  rw [List.take_succ_eq_append_getElem h, List.take_succ_eq_append_getElem h', sames_append _ _ _ _ (by simp; omega)]; simp [Tp.sames]
theorem sames_get (l m : List T) (k : Nat) (h : k < l.length) (h' : k < m.length) (hf : Tp.same l[k] m[k] = false) : Tp.sames l m = false := by
  have e := sames_append (l.take (k + 1)) (l.drop (k + 1)) (m.take (k + 1)) (m.drop (k + 1)) (by simp; omega)
  rw [List.take_append_drop, List.take_append_drop, sames_take l m k h h', hf] at e
  simpa using e

theorem below_undrew {w w' : World} (h : Below w.drew.heap.size w.drew w') : Below w.heap.size w w' := ⟨h.os, h.tape, h.output, h.size, h.block⟩

set_option maxRecDepth 100000 in
set_option maxHeartbeats 2000000 in
theorem ksame_any : ∀ (n : Nat) (t u : T) (a : Option Addr) (cap : Nat) (a' : Option Addr) (cap' : Nat) (w : World), Tp.size t ≤ n → TyAt (LT w.heap.size) w t a cap → TyAt (LT w.heap.size) w u a' cap' →
    Calls Try.prog 31 #[tv t a cap, tv u a' cap'] w fun e w' => e = .returned (.bool (Tp.same t u)) ∧ Below w.heap.size w w' := by
  intro n
  induction n with
  | zero => intro t u a cap a' cap' w h; have := Tp.size_pos t; omega
  | succ n ih =>
    intro t u a cap a' cap' w hn hty hty'
    have hm10 : (t.kids.length : Int) ≤ 9223372036854775807 := by have h1 := hty.2.2.1; have h2 := hty.2.2.2.1; unfold maxLen at h2; omega
    have HN := Lib.hid hn; have HTY := Lib.hid hty; have HTY' := Lib.hid hty'; have IH := Lib.hid ih; clear hn hty hty' ih
    obtain ⟨m, hm⟩ : ∃ m, t.kids.length = m := ⟨_, rfl⟩
    obtain ⟨m', hm'⟩ : ∃ m, u.kids.length = m := ⟨_, rfl⟩
    obtain ⟨kk, hkk⟩ : ∃ kk, t.kind = kk := ⟨_, rfl⟩
    obtain ⟨kk', hkk'⟩ : ∃ kk, u.kind = kk := ⟨_, rfl⟩
    obtain ⟨nn, hnn⟩ : ∃ kk, t.num = kk := ⟨_, rfl⟩
    obtain ⟨nn', hnn'⟩ : ∃ kk, u.num = kk := ⟨_, rfl⟩
    obtain ⟨res, hres⟩ : ∃ res, Tp.same t u = res := ⟨_, rfl⟩
    have hsn : res = (decide (kk = kk') && decide (nn = nn') && decide (m = m') && Tp.sames t.kids u.kids) := by rw [← hres, ← hkk, ← hkk', ← hnn, ← hnn', ← hm, ← hm']; cases t; cases u; rfl
    unfold tv
    rw [hm] at hm10 ⊢
    rw [hkk, hnn, hm', hkk', hnn', hres]
    have HM := Lib.hid hm; have HM' := Lib.hid hm'; have HSN := Lib.hid hsn; clear hm hm' hkk hnn hkk' hnn' hres hsn
    by_cases hal : (decide (kk = kk') && decide (nn = nn') && decide (m = m')) = true
    · have hr : res = Tp.sames t.kids u.kids := by rw [HSN.out, hal, Bool.true_and]
      simp only [Bool.and_eq_true, decide_eq_true_eq] at hal
      obtain ⟨⟨e1, e2⟩, e3⟩ := hal
      subst e1 e2 e3
      have HR := Lib.hid hr; clear hr
      go_enter Try.func31, Try.ntmps31
      go_wp2_with fail
      go_loopg [5] m (fun gk i wr => ∃ k : Nat, k ≤ m ∧ i = .int .i64 k ∧ Tp.sames (t.kids.take k) (u.kids.take k) = true ∧ Below (w.heap.size + 1 + 1) ((w.alloc (.cells #[.int .i64 kk, .int .i64 nn, .slice a m cap] 26)).alloc (.cells #[.int .i64 kk, .int .i64 nn, .slice a' m cap'] 26)) wr ∧ gk = m - k)
      case atStart => exact ⟨0, Nat.zero_le _, rfl, rfl, Below.refl _ _, rfl⟩
      case round =>
        obtain ⟨k, hk, rfl, hw, hb, rfl⟩ := hrel
        have c2 : wr.cell? ⟨w.heap.size, 2, none⟩ = some (.slice a m cap) := cell_box (box1 w _ _ _ _) (hb.block w.heap.size (by omega)) rfl
        have c3 : wr.cell? ⟨w.heap.size + 1, 2, none⟩ = some (.slice a' m cap') := cell_box (box2 w _ _ _ _) (hb.block (w.heap.size + 1) (by omega)) rfl
        have hbw : Below w.heap.size w wr := (((Below.refl _ _).alloc (Nat.le_refl _) _).alloc (by simp) _).trans (hb.mono (by omega))
        have HB := Lib.hid hb; have HBW := Lib.hid hbw; have HW := Lib.hid hw; clear hb hbw hw
        by_cases hlt : k < m
        · have hkl : k < t.kids.length := by rw [HM.out]; exact hlt
          have hkl' : k < u.kids.length := by rw [HM'.out]; exact hlt
          obtain ⟨b, o, xa, xcap, rfl, hbn, hx, x0, x1, x2⟩ := kid_at HTY.out HBW.out (Nat.le_refl _) hkl
          obtain ⟨b', o', ya, ycap, rfl, hbn', hy, y0, y1, y2⟩ := kid_at HTY'.out HBW.out (Nat.le_refl _) hkl'
          have hst := sames_take t.kids u.kids k hkl hkl'
          have hge := sames_get t.kids u.kids k hkl hkl'
          have hsk := size_kid t.kids k hkl
          have hss := size_kids t
          obtain ⟨wd, hwd⟩ : ∃ wd, wr.drew = wd := ⟨_, rfl⟩
          have hcall := fun (nq : Nat) => IH.out t.kids[k] u.kids[k] xa xcap ya ycap (wr.drewN nq) (by have := HN.out; omega) (hx.below (below_drewM (Below.refl wr.heap.size wr) nq) (fun _ h => h) (fun _ h => h)) (hy.below (below_drewM (Below.refl wr.heap.size wr) nq) (fun _ h => h) (fun _ h => h))
          have hcall1 := IH.out t.kids[k] u.kids[k] xa xcap ya ycap wr.drew (by have := HN.out; omega) (hx.below ((Below.refl wr.heap.size wr).drew) (fun _ h => h) (fun _ h => h)) (hy.below ((Below.refl wr.heap.size wr).drew) (fun _ h => h) (fun _ h => h))
          unfold tv at hcall1
          obtain ⟨x, hx'⟩ : ∃ x, t.kids[k] = x := ⟨_, rfl⟩
          obtain ⟨y, hy'⟩ : ∃ x, u.kids[k] = x := ⟨_, rfl⟩
          rw [hx'] at x0 x1 x2 hcall1 hst hge
          rw [hy'] at y0 y1 y2 hcall1 hst hge
          obtain ⟨s2, hs2⟩ : ∃ s1, Tp.same x y = s1 := ⟨_, rfl⟩
          rw [hs2] at hcall1 hst hge
          have HST := Lib.hid hst; have HC := Lib.hid hcall1; have HGE := Lib.hid hge
          clear hst hcall hcall1 hsk hss hx hx' hy hy' hs2 hge hwd
          cases s2 with
          | true =>
            go_wp2_with fail
            go_still_tail 10, (by kernel_rfl)
            go_wp2_with (go_at_call 31; refine HC.out.mono ?_; rintro e w' ⟨rfl, hb'⟩)
            have hb2 := below_undrew hb'
            go_roundg (m - (k + 1))
            case measure => omega
            case rel => exact ⟨k + 1, by omega, by go_num, by rw [HST.out, HW.out]; rfl, HB.out.trans (hb2.mono (by have := HB.out.size; rw [World.size_alloc, World.size_alloc] at this; exact this)), rfl⟩
          | false =>
            go_wp2_with fail
            go_still_tail 10, (by kernel_rfl)
            go_wp2_with (go_at_call 31; refine HC.out.mono ?_; rintro e w' ⟨rfl, hb'⟩)
            have hb2 := below_undrew hb'
            go_ret
            exact ⟨ret_boolT (by rw [HR.out]; exact (HGE.out trivial).symm), HBW.out.trans (hb2.mono HBW.out.size)⟩
        · obtain rfl : k = m := by omega
          go_wp2_with fail
          go_ret
          exact ⟨ret_boolT (by rw [HR.out, ← HW.out, List.take_of_length_le (by rw [HM.out]; exact Nat.le_refl _), List.take_of_length_le (by rw [HM'.out]; exact Nat.le_refl _)]), HBW.out⟩
    · have hr : res = false := by rw [HSN.out]; simp only [Bool.not_eq_true] at hal; rw [hal, Bool.false_and]
      simp only [Bool.and_eq_true, decide_eq_true_eq, not_and] at hal
      have HR := Lib.hid hr; have HAL := Lib.hid hal; clear hr hal
      by_cases e1 : kk = kk'
      · have g1 : (kk != kk') = false := by simp [e1]
        by_cases e2 : nn = nn'
        · have g2 : (nn != nn') = false := by simp [e2]
          have e3 := HAL.out ⟨e1, e2⟩
          have g3 : ((m : Int) != (m' : Int)) = true := by simp; omega
          have E1 := Lib.hid e1; have E2 := Lib.hid e2; have E3 := Lib.hid e3; clear e1 e2 e3
          go_enter Try.func31, Try.ntmps31
          go_wp2_with fail
          go_ret
          exact ⟨ret_boolT HR.out.symm, ((Below.refl _ _).alloc (Nat.le_refl _) _).alloc (by simp) _⟩
        · have g2 : (nn != nn') = true := by simp [e2]
          have E1 := Lib.hid e1; have E2 := Lib.hid e2; clear e1 e2
          go_enter Try.func31, Try.ntmps31
          go_wp2_with fail
          go_ret
          exact ⟨ret_boolT HR.out.symm, ((Below.refl _ _).alloc (Nat.le_refl _) _).alloc (by simp) _⟩
      · have g1 : (kk != kk') = true := by simp [e1]
        have E1 := Lib.hid e1; clear e1
        go_enter Try.func31, Try.ntmps31
        go_wp2_with fail
        go_ret
        exact ⟨ret_boolT HR.out.symm, ((Below.refl _ _).alloc (Nat.le_refl _) _).alloc (by simp) _⟩

end Go.Proofs.Ytaaapdfdedknfaa

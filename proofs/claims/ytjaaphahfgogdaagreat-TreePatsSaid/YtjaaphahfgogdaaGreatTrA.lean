/- Walks: the page's own answers for types: how great, how deep, right, without a kind; count. Walks: the page's Right, Same; suretykeep's Same; rows of numbers. -/
import Derived.Test.YtjaaphahfgogdaaGreatTpP
import Derived.Deep.LoopGhost
import Derived.Deep.QuietTactic
import Derived.BigQuiet
import Derived.Outline
import Derived.IntWalk
import Derived.StillTailTactics
namespace Go.Proofs.YtjaaphahfgogdaaGreat
open Go Go.RowKit
open Tp (T)

theorem sizes_take (l : List T) (k : Nat) (h : k < l.length) : Tp.sizes (l.take (k + 1)) = Tp.sizes (l.take k) + Tp.size l[k] := by
  rw [List.take_succ_eq_append_getElem h, Tp.sizes_append]; simp [Tp.sizes]
theorem sizes_take_le (l : List T) (k : Nat) : Tp.sizes (l.take k) ≤ Tp.sizes l := by
  have := Tp.sizes_append (l.take k) (l.drop k)
  rw [List.take_append_drop] at this; omega
theorem size_kid (l : List T) (k : Nat) (h : k < l.length) : Tp.size l[k] ≤ Tp.sizes l := by
  have := sizes_take l k h
  have := sizes_take_le l (k + 1)
  omega
theorem size_kids (t : T) : Tp.size t = Tp.sizes t.kids + 1 := by cases t; rfl
/-- What a loop over the kids reads. -/
theorem kid_at {n : Nat} {w wr : World} {t : T} {a : Option Addr} {cap : Nat} (h : TyAt (LT n) w t a cap) (hb : Below n w wr) (hn : n ≤ w.heap.size) {k : Nat} (hk : k < t.kids.length) :
    ∃ b o xa xcap, a = some ⟨b, o, none⟩ ∧ b < n ∧ TyAt (LT wr.heap.size) wr t.kids[k] xa xcap ∧ wr.cell? ⟨b, o + k * 3, none⟩ = some (.int .i64 t.kids[k].kind) ∧ wr.cell? ⟨b, o + k * 3 + 1, none⟩ = some (.int .i64 t.kids[k].num) ∧
      wr.cell? ⟨b, o + k * 3 + 2, none⟩ = some (.slice xa t.kids[k].kids.length xcap) := by
  have h2 := h.below hb (fun _ h => h) (fun b h => (Nat.lt_of_lt_of_le h (Nat.le_trans hn hb.size) : b < wr.heap.size)) (G' := LT wr.heap.size)
  obtain ⟨b, o, rfl, hbn, hN⟩ := h2.2.2.2.2.first (by omega)
  obtain ⟨b1, o1, e1, hbn1, _⟩ := h.2.2.2.2.first (by omega)
  injection e1 with e1; injection e1 with e1 e2 e3
  obtain ⟨xa, xcap, q1, q2, q3, q4⟩ := (hN k hk).ty
  exact ⟨b, o, xa, xcap, rfl, by rw [e1]; exact hbn1, q1, q2, q3, q4⟩

theorem depths_append : ∀ l m : List T, Tp.depths (l ++ m) = max (Tp.depths l) (Tp.depths m)
  | [], m => by simp [Tp.depths]
  | t :: r, m => by simp only [List.cons_append, Tp.depths, depths_append r m]; omega
theorem depths_take (l : List T) (k : Nat) (h : k < l.length) : Tp.depths (l.take (k + 1)) = max (Tp.depths (l.take k)) (Tp.depth l[k]) := by
  rw [List.take_succ_eq_append_getElem h, depths_append]; simp [Tp.depths]
theorem depth_kids (t : T) : Tp.depth t = Tp.depths t.kids + 1 := by cases t; rfl
theorem depths_take_le (l : List T) (k : Nat) : Tp.depths (l.take k) ≤ Tp.sizes l := Nat.le_trans (Tp.depths_le_sizes _) (sizes_take_le l k)
theorem withouts_take (x : Int) (l : List T) (k : Nat) (h : k < l.length) : Tp.withouts x (l.take (k + 1)) = (Tp.withouts x (l.take k) && Tp.without x l[k]) := by
  have ap : ∀ a b : List T, Tp.withouts x (a ++ b) = (Tp.withouts x a && Tp.withouts x b) := by
    intro a; induction a with
    | nil => intro b; simp [Tp.withouts]
    | cons t r ih => intro b; simp [Tp.withouts, ih, Bool.and_assoc]
  rw [List.take_succ_eq_append_getElem h, ap]; simp [Tp.withouts]
theorem withouts_get (x : Int) (l : List T) (k : Nat) (h : k < l.length) (hf : Tp.without x l[k] = false) : Tp.withouts x l = false := by
  have ap : ∀ a b : List T, Tp.withouts x (a ++ b) = (Tp.withouts x a && Tp.withouts x b) := by
    intro a; induction a with
    | nil => intro b; simp [Tp.withouts]
    | cons t r ih => intro b; simp [Tp.withouts, ih, Bool.and_assoc]
  have e := ap (l.take (k + 1)) (l.drop (k + 1))
  rw [List.take_append_drop, withouts_take x l k h, hf] at e
  simpa using e
theorem without_kids (x : Int) (t : T) : Tp.without x t = (!decide (t.kind = x) && Tp.withouts x t.kids) := by cases t; rfl

set_option maxHeartbeats 1000000 in
theorem rdepth_any : ∀ (n : Nat) (t : T) (a : Option Addr) (cap : Nat) (w : World), Tp.size t ≤ n → Tp.size t ≤ 10000 → TyAt (LT w.heap.size) w t a cap →
    Calls Tryz.prog 59 #[tv t a cap] w fun e w' => e = .returned (.int .i64 (Tp.depth t : Int)) ∧ Below w.heap.size w w' := by
  intro n
  induction n with
  | zero => intro t a cap w h; have := Tp.size_pos t; omega
  | succ n ih =>
    intro t a cap w hn hs hty
    have hm10 : (t.kids.length : Int) ≤ 10000 := by have := Tp.length_le_sizes t.kids; have := size_kids t; omega
    have HN := Lib.hid hn; have HS := Lib.hid hs; have HTY := Lib.hid hty; have IH := Lib.hid ih; clear hn hs hty ih
    have hlen : ∃ m, t.kids.length = m := ⟨_, rfl⟩
    obtain ⟨m, hm⟩ := hlen
    unfold tv
    rw [hm] at hm10 ⊢
    have HM := Lib.hid hm; clear hm
    go_enter Tryz.func59, Tryz.ntmps59
    go_wp2_with fail
    go_loopg [3, 4] m (fun gk v i wr => ∃ k : Nat, k ≤ m ∧ i = .int .i64 k ∧ v = .int .i64 (Tp.depths (t.kids.take k) : Nat) ∧ Below (w.heap.size + 1) (w.alloc (.cells #[.int .i64 t.kind, .int .i64 t.num, .slice a m cap] 26)) wr ∧ gk = m - k)
    case atStart => exact ⟨0, Nat.zero_le _, rfl, by simp [Tp.depths], Below.refl _ _, rfl⟩
    case round =>
      obtain ⟨k, hk, rfl, rfl, hb, rfl⟩ := hrel
      have c2 : wr.cell? ⟨w.heap.size, 2, none⟩ = some (.slice a m cap) := cell_box (World.alloc_heap_new w _) (hb.block w.heap.size (by omega)) rfl
      have hbw : Below w.heap.size w wr := ((Below.refl _ _).alloc (Nat.le_refl _) _).trans (hb.mono (by omega))
      have HB := Lib.hid hb; have HBW := Lib.hid hbw; clear hb hbw
      by_cases hlt : k < m
      · have hkl : k < t.kids.length := by rw [HM.out]; exact hlt
        obtain ⟨b, o, xa, xcap, rfl, hbn, hx, x0, x1, x2⟩ := kid_at HTY.out HBW.out (Nat.le_refl _) hkl
        have hst := depths_take t.kids k hkl
        have hsk := size_kid t.kids k hkl
        have hsl := depths_take_le t.kids k
        have hds := Tp.depth_le_size t.kids[k]
        have hss := size_kids t
        have hcall := IH.out t.kids[k] xa xcap wr (by have := HN.out; omega) (by have := HS.out; omega) hx
        unfold tv at hcall
        obtain ⟨x, hx'⟩ : ∃ x, t.kids[k] = x := ⟨_, rfl⟩
        rw [hx'] at x0 x1 x2 hcall hst hds hsk
        obtain ⟨s1, hs1⟩ : ∃ s1, Tp.depths (t.kids.take k) = s1 := ⟨_, rfl⟩
        obtain ⟨s2, hs2⟩ : ∃ s1, Tp.depth x = s1 := ⟨_, rfl⟩
        rw [hs2] at hcall hst hds; rw [hs1] at hst hsl ⊢
        have hbd : (s1 : Int) ≤ 10000 := by have := HS.out; omega
        have hbd2 : (s2 : Int) ≤ 10000 := by have := HS.out; omega
        have HST := Lib.hid hst; have HC := Lib.hid hcall; have HX := Lib.hid hx'
        clear hst hcall hsk hsl hss hx hx' hs1 hs2 hds
        have hp1 : (0 : Int) ≤ s1 := Int.natCast_nonneg _
        have hp2 : (0 : Int) ≤ s2 := Int.natCast_nonneg _
        go_wp2_with (go_at_call 59; refine HC.out.mono ?_; rintro e w' ⟨rfl, hb'⟩)
        all_goals
          go_roundg (m - (k + 1))
          case measure => omega
          case rel => exact ⟨k + 1, by omega, by go_num, by rw [HST.out]; first | (congr 1; omega) | omega, HB.out.trans (hb'.mono (by have := HB.out.size; rw [World.size_alloc] at this; exact this)), rfl⟩
      · obtain rfl : k = m := by omega
        have hbd : (Tp.depths (t.kids.take k) : Int) ≤ 10000 := by have := depths_take_le t.kids k; have := size_kids t; have := HS.out; omega
        have hp1 : (0 : Int) ≤ (Tp.depths (t.kids.take k) : Nat) := Int.natCast_nonneg _
        go_wp2_with fail
        go_ret
        exact ⟨ret_intT (by rw [List.take_of_length_le (by rw [HM.out]; exact Nat.le_refl _), depth_kids t]; omega), HBW.out⟩

set_option maxHeartbeats 1000000 in
theorem rwithout_any (q : Int) : ∀ (n : Nat) (t : T) (a : Option Addr) (cap : Nat) (w : World), Tp.size t ≤ n → TyAt (LT w.heap.size) w t a cap →
    Calls Tryz.prog 109 #[tv t a cap, .int .i64 q] w fun e w' => e = .returned (.bool (Tp.without q t)) ∧ Below w.heap.size w w' := by
  intro n
  induction n with
  | zero => intro t a cap w h; have := Tp.size_pos t; omega
  | succ n ih =>
    intro t a cap w hn hty
    have hm10 : (t.kids.length : Int) ≤ 9223372036854775807 := by have h1 := hty.2.2.1; have h2 := hty.2.2.2.1; unfold maxLen at h2; omega
    have HN := Lib.hid hn; have HTY := Lib.hid hty; have IH := Lib.hid ih; clear hn hty ih
    have hlen : ∃ m, t.kids.length = m := ⟨_, rfl⟩
    obtain ⟨m, hm⟩ := hlen
    obtain ⟨kk, hkk⟩ : ∃ kk, t.kind = kk := ⟨_, rfl⟩
    obtain ⟨res, hres⟩ : ∃ res, Tp.without q t = res := ⟨_, rfl⟩
    unfold tv
    rw [hm] at hm10 ⊢
    rw [hkk, hres]
    have HM := Lib.hid hm; have HKK := Lib.hid hkk; have HRES := Lib.hid hres; clear hm hkk hres
    by_cases hkq : kk = q
    · have hr : res = false := by rw [← HRES.out, without_kids, HKK.out]; simp [hkq]
      have HR := Lib.hid hr; clear hr
      have hkq' : (kk == q) = true := by simp [hkq]
      have HKQ := Lib.hid hkq; clear hkq
      go_enter Tryz.func109, Tryz.ntmps109
      go_wp2_with fail
      go_ret
      exact ⟨ret_boolT HR.out.symm, (Below.refl _ _).alloc (Nat.le_refl _) _⟩
    · have hr : res = Tp.withouts q t.kids := by rw [← HRES.out, without_kids, HKK.out]; simp [hkq]
      have HR := Lib.hid hr; clear hr
      have hkq' : (kk == q) = false := by simp [hkq]
      have HKQ := Lib.hid hkq; clear hkq
      go_enter Tryz.func109, Tryz.ntmps109
      go_wp2_with fail
      go_loopg [5] m (fun gk i wr => ∃ k : Nat, k ≤ m ∧ i = .int .i64 k ∧ Tp.withouts q (t.kids.take k) = true ∧ Below (w.heap.size + 1) (w.alloc (.cells #[.int .i64 kk, .int .i64 t.num, .slice a m cap] 26)) wr ∧ gk = m - k)
      case atStart => exact ⟨0, Nat.zero_le _, rfl, rfl, Below.refl _ _, rfl⟩
      case round =>
        obtain ⟨k, hk, rfl, hw, hb, rfl⟩ := hrel
        have c2 : wr.cell? ⟨w.heap.size, 2, none⟩ = some (.slice a m cap) := cell_box (World.alloc_heap_new w _) (hb.block w.heap.size (by omega)) rfl
        have hbw : Below w.heap.size w wr := ((Below.refl _ _).alloc (Nat.le_refl _) _).trans (hb.mono (by omega))
        have HB := Lib.hid hb; have HBW := Lib.hid hbw; have HW := Lib.hid hw; clear hb hbw hw
        by_cases hlt : k < m
        · have hkl : k < t.kids.length := by rw [HM.out]; exact hlt
          obtain ⟨b, o, xa, xcap, rfl, hbn, hx, x0, x1, x2⟩ := kid_at HTY.out HBW.out (Nat.le_refl _) hkl
          have hst := withouts_take q t.kids k hkl
          have hge := withouts_get q t.kids k hkl
          have hsk := size_kid t.kids k hkl
          have hss := size_kids t
          have hcall := IH.out t.kids[k] xa xcap wr (by have := HN.out; omega) hx
          unfold tv at hcall
          obtain ⟨x, hx'⟩ : ∃ x, t.kids[k] = x := ⟨_, rfl⟩
          rw [hx'] at x0 x1 x2 hcall hst hge
          obtain ⟨s2, hs2⟩ : ∃ s1, Tp.without q x = s1 := ⟨_, rfl⟩
          rw [hs2] at hcall hst hge
          have HST := Lib.hid hst; have HC := Lib.hid hcall; have HGE := Lib.hid hge
          clear hst hcall hsk hss hx hx' hs2 hge
          cases s2 with
          | true =>
            go_wp2_with (go_at_call 109; refine HC.out.mono ?_; rintro e w' ⟨rfl, hb'⟩)
            go_roundg (m - (k + 1))
            case measure => omega
            case rel => exact ⟨k + 1, by omega, by go_num, by rw [HST.out, HW.out]; rfl, HB.out.trans (hb'.mono (by have := HB.out.size; rw [World.size_alloc] at this; exact this)), rfl⟩
          | false =>
            go_wp2_with (go_at_call 109; refine HC.out.mono ?_; rintro e w' ⟨rfl, hb'⟩)
            go_ret
            exact ⟨ret_boolT (by rw [HR.out]; exact (HGE.out trivial).symm), HBW.out.trans (hb'.mono HBW.out.size)⟩
        · obtain rfl : k = m := by omega
          go_wp2_with fail
          go_ret
          exact ⟨ret_boolT (by rw [HR.out, ← HW.out, List.take_of_length_le (by rw [HM.out]; exact Nat.le_refl _)]), HBW.out⟩

end Go.Proofs.YtjaaphahfgogdaaGreat
namespace Go.Proofs.YtjaaphahfgogdaaGreat
open Go Go.RowKit
open Tp (T)

theorem rights_append : ∀ l m : List T, Tp.rights (l ++ m) = (Tp.rights l && Tp.rights m)
  | [], m => by simp [Tp.rights]
  | t :: r, m => by simp [Tp.rights, rights_append r m, Bool.and_assoc]
theorem rights_take (l : List T) (k : Nat) (h : k < l.length) : Tp.rights (l.take (k + 1)) = (Tp.rights (l.take k) && Tp.right l[k]) := by
  rw [List.take_succ_eq_append_getElem h, rights_append]; simp [Tp.rights]
theorem rights_get (l : List T) (k : Nat) (h : k < l.length) (hf : Tp.right l[k] = false) : Tp.rights l = false := by
  have e := rights_append (l.take (k + 1)) (l.drop (k + 1))
  rw [List.take_append_drop, rights_take l k h, hf] at e
  simpa using e
theorem right_kids (t : T) : Tp.right t = (Tp.nodeRight t.kind t.num t.kids.length && Tp.rights t.kids) := by cases t; rfl

theorem below_drewM {B : Nat} {a w : World} (h : Below B a w) (n : Nat) : Below B a (w.drewN n) := ⟨h.os, h.tape, h.output, h.size, h.block⟩

set_option maxRecDepth 100000 in
set_option maxHeartbeats 2000000 in
theorem rright_any : ∀ (n : Nat) (t : T) (a : Option Addr) (cap : Nat) (w : World), Tp.size t ≤ n → TyAt (LT w.heap.size) w t a cap →
    Calls Tryz.prog 108 #[tv t a cap] w fun e w' => e = .returned (.bool (Tp.right t)) ∧ Below w.heap.size w w' := by
  intro n
  induction n with
  | zero => intro t a cap w h; have := Tp.size_pos t; omega
  | succ n ih =>
    intro t a cap w hn hty
    have hm10 : (t.kids.length : Int) ≤ 9223372036854775807 := by have h1 := hty.2.2.1; have h2 := hty.2.2.2.1; unfold maxLen at h2; omega
    have HN := Lib.hid hn; have HTY := Lib.hid hty; have IH := Lib.hid ih; clear hn hty ih
    have hlen : ∃ m, t.kids.length = m := ⟨_, rfl⟩
    obtain ⟨m, hm⟩ := hlen
    obtain ⟨kk, hkk⟩ : ∃ kk, t.kind = kk := ⟨_, rfl⟩
    obtain ⟨nn, hnn⟩ : ∃ kk, t.num = kk := ⟨_, rfl⟩
    obtain ⟨res, hres⟩ : ∃ res, Tp.right t = res := ⟨_, rfl⟩
    obtain ⟨ar, har⟩ : ∃ ar, Tp.arity kk = ar := ⟨_, rfl⟩
    have h29 := fun w => kids_any kk w
    rw [har] at h29
    unfold tv
    rw [hm] at hm10 ⊢
    rw [hkk, hnn, hres]
    have hnr : res = (Tp.nodeRight kk nn m && Tp.rights t.kids) := by rw [← hres, right_kids, hkk, hnn, hm]
    have HM := Lib.hid hm; have HKK := Lib.hid hkk; have HNN := Lib.hid hnn; have HAR := Lib.hid har; have HRES := Lib.hid hres; have HNR := Lib.hid hnr; have H29 := Lib.hid h29; clear hm hkk hnn hres har hnr h29
    have hnode : Tp.nodeRight kk nn m = (decide (ar = m) && decide (0 ≤ nn) && decide (nn ≤ 1048576) && (decide (kk = 6) || decide (nn = 0))) := by unfold Tp.nodeRight; rw [HAR.out]
    have HNODE := Lib.hid hnode; clear hnode
    by_cases h1 : ar = m
    · have g1 : (ar != (m : Int)) = false := by simp [h1]
      by_cases h2 : 0 ≤ nn
      · have g2 : decide (nn < 0) = false := by simp; omega
        by_cases h3 : nn ≤ 1048576
        · have g3 : decide (1048576 < nn) = false := by simp; omega
          by_cases h4 : kk = 6
          · have g4 : (kk != 6) = false := by simp [h4]
            have hr : res = Tp.rights t.kids := by rw [HNR.out, HNODE.out]; simp [h1, h2, h3, h4]
            have HR := Lib.hid hr; have H1 := Lib.hid h1; have H2 := Lib.hid h2; have H3 := Lib.hid h3; have H4 := Lib.hid h4; clear hr h1 h2 h3 h4
            go_enter Tryz.func108, Tryz.ntmps108
            go_wp2_with fail
            go_quiet ((go_at_call 133; exact Calls.quiet_of_same ((H29.out _).mono fun e w' h => ⟨h.1, h.2.symm⟩)))
            go_wp2_with fail
            go_loopg [3] m (fun gk i wr => ∃ k : Nat, k ≤ m ∧ i = .int .i64 k ∧ Tp.rights (t.kids.take k) = true ∧ Below (w.heap.size + 1) (w.alloc (.cells #[.int .i64 kk, .int .i64 nn, .slice a m cap] 26)) wr ∧ gk = m - k)
            case atStart => exact ⟨0, Nat.zero_le _, rfl, rfl, below_drewM (Below.refl _ _) _, rfl⟩
            case round =>
              obtain ⟨k, hk, rfl, hw, hb, rfl⟩ := hrel
              have c2 : wr.cell? ⟨w.heap.size, 2, none⟩ = some (.slice a m cap) := cell_box (World.alloc_heap_new w _) (hb.block w.heap.size (by omega)) rfl
              have hbw : Below w.heap.size w wr := ((Below.refl _ _).alloc (Nat.le_refl _) _).trans (hb.mono (by omega))
              have HB := Lib.hid hb; have HBW := Lib.hid hbw; have HW := Lib.hid hw; clear hb hbw hw
              by_cases hlt : k < m
              · have hkl : k < t.kids.length := by rw [HM.out]; exact hlt
                obtain ⟨b, o, xa, xcap, rfl, hbn, hx, x0, x1, x2⟩ := kid_at HTY.out HBW.out (Nat.le_refl _) hkl
                have hst := rights_take t.kids k hkl
                have hge := rights_get t.kids k hkl
                have hsk := size_kid t.kids k hkl
                have hss := size_kids t
                have hcall := IH.out t.kids[k] xa xcap wr (by have := HN.out; omega) hx
                unfold tv at hcall
                obtain ⟨x, hx'⟩ : ∃ x, t.kids[k] = x := ⟨_, rfl⟩
                rw [hx'] at x0 x1 x2 hcall hst hge
                obtain ⟨s2, hs2⟩ : ∃ s1, Tp.right x = s1 := ⟨_, rfl⟩
                rw [hs2] at hcall hst hge
                have HST := Lib.hid hst; have HC := Lib.hid hcall; have HGE := Lib.hid hge
                clear hst hcall hsk hss hx hx' hs2 hge
                cases s2 with
                | true =>
                  go_wp2_with (go_at_call 108; refine HC.out.mono ?_; rintro e w' ⟨rfl, hb'⟩)
                  go_roundg (m - (k + 1))
                  case measure => omega
                  case rel => exact ⟨k + 1, by omega, by go_num, by rw [HST.out, HW.out]; rfl, HB.out.trans (hb'.mono (by have := HB.out.size; rw [World.size_alloc] at this; exact this)), rfl⟩
                | false =>
                  go_wp2_with (go_at_call 108; refine HC.out.mono ?_; rintro e w' ⟨rfl, hb'⟩)
                  go_ret
                  exact ⟨ret_boolT (by rw [HR.out]; exact (HGE.out trivial).symm), HBW.out.trans (hb'.mono HBW.out.size)⟩
              · obtain rfl : k = m := by omega
                go_wp2_with fail
                go_ret
                exact ⟨ret_boolT (by rw [HR.out, ← HW.out, List.take_of_length_le (by rw [HM.out]; exact Nat.le_refl _)]), HBW.out⟩
          · have g4 : (kk != 6) = true := by simp [h4]
            by_cases h5 : nn = 0
            · have g5 : (nn != 0) = false := by simp [h5]
              have hr : res = Tp.rights t.kids := by rw [HNR.out, HNODE.out]; simp [h1, h4, h5]
              have HR := Lib.hid hr; have H1 := Lib.hid h1; have H2 := Lib.hid h2; have H3 := Lib.hid h3; have H4 := Lib.hid h4; have H5 := Lib.hid h5; clear hr h1 h2 h3 h4 h5
              go_enter Tryz.func108, Tryz.ntmps108
              go_wp2_with fail
              go_quiet ((go_at_call 133; exact Calls.quiet_of_same ((H29.out _).mono fun e w' h => ⟨h.1, h.2.symm⟩)))
              go_wp2_with fail
              go_loopg [3] m (fun gk i wr => ∃ k : Nat, k ≤ m ∧ i = .int .i64 k ∧ Tp.rights (t.kids.take k) = true ∧ Below (w.heap.size + 1) (w.alloc (.cells #[.int .i64 kk, .int .i64 nn, .slice a m cap] 26)) wr ∧ gk = m - k)
              case atStart => exact ⟨0, Nat.zero_le _, rfl, rfl, below_drewM (Below.refl _ _) _, rfl⟩
              case round =>
                obtain ⟨k, hk, rfl, hw, hb, rfl⟩ := hrel
                have c2 : wr.cell? ⟨w.heap.size, 2, none⟩ = some (.slice a m cap) := cell_box (World.alloc_heap_new w _) (hb.block w.heap.size (by omega)) rfl
                have hbw : Below w.heap.size w wr := ((Below.refl _ _).alloc (Nat.le_refl _) _).trans (hb.mono (by omega))
                have HB := Lib.hid hb; have HBW := Lib.hid hbw; have HW := Lib.hid hw; clear hb hbw hw
                by_cases hlt : k < m
                · have hkl : k < t.kids.length := by rw [HM.out]; exact hlt
                  obtain ⟨b, o, xa, xcap, rfl, hbn, hx, x0, x1, x2⟩ := kid_at HTY.out HBW.out (Nat.le_refl _) hkl
                  have hst := rights_take t.kids k hkl
                  have hge := rights_get t.kids k hkl
                  have hsk := size_kid t.kids k hkl
                  have hss := size_kids t
                  have hcall := IH.out t.kids[k] xa xcap wr (by have := HN.out; omega) hx
                  unfold tv at hcall
                  obtain ⟨x, hx'⟩ : ∃ x, t.kids[k] = x := ⟨_, rfl⟩
                  rw [hx'] at x0 x1 x2 hcall hst hge
                  obtain ⟨s2, hs2⟩ : ∃ s1, Tp.right x = s1 := ⟨_, rfl⟩
                  rw [hs2] at hcall hst hge
                  have HST := Lib.hid hst; have HC := Lib.hid hcall; have HGE := Lib.hid hge
                  clear hst hcall hsk hss hx hx' hs2 hge
                  cases s2 with
                  | true =>
                    go_wp2_with (go_at_call 108; refine HC.out.mono ?_; rintro e w' ⟨rfl, hb'⟩)
                    go_roundg (m - (k + 1))
                    case measure => omega
                    case rel => exact ⟨k + 1, by omega, by go_num, by rw [HST.out, HW.out]; rfl, HB.out.trans (hb'.mono (by have := HB.out.size; rw [World.size_alloc] at this; exact this)), rfl⟩
                  | false =>
                    go_wp2_with (go_at_call 108; refine HC.out.mono ?_; rintro e w' ⟨rfl, hb'⟩)
                    go_ret
                    exact ⟨ret_boolT (by rw [HR.out]; exact (HGE.out trivial).symm), HBW.out.trans (hb'.mono HBW.out.size)⟩
                · obtain rfl : k = m := by omega
                  go_wp2_with fail
                  go_ret
                  exact ⟨ret_boolT (by rw [HR.out, ← HW.out, List.take_of_length_le (by rw [HM.out]; exact Nat.le_refl _)]), HBW.out⟩
            · have g5 : (nn != 0) = true := by simp [h5]
              have hr : res = false := by rw [HNR.out, HNODE.out]; simp [h4, h5]
              have HR := Lib.hid hr; have H1 := Lib.hid h1; have H2 := Lib.hid h2; have H3 := Lib.hid h3; have H4 := Lib.hid h4; have H5 := Lib.hid h5; clear hr h1 h2 h3 h4 h5
              go_enter Tryz.func108, Tryz.ntmps108
              go_wp2_with fail
              go_quiet ((go_at_call 133; exact Calls.quiet_of_same ((H29.out _).mono fun e w' h => ⟨h.1, h.2.symm⟩)))
              go_wp2_with fail
              go_ret
              exact ⟨ret_boolT HR.out.symm, below_drewM ((Below.refl _ _).alloc (Nat.le_refl _) _) _⟩
        · have g3 : decide (1048576 < nn) = true := by simp; omega
          have hr : res = false := by rw [HNR.out, HNODE.out]; simp [h3]
          have HR := Lib.hid hr; have H1 := Lib.hid h1; have H2 := Lib.hid h2; have H3 := Lib.hid h3; clear hr h1 h2 h3
          go_enter Tryz.func108, Tryz.ntmps108
          go_wp2_with fail
          go_quiet ((go_at_call 133; exact Calls.quiet_of_same ((H29.out _).mono fun e w' h => ⟨h.1, h.2.symm⟩)))
          go_wp2_with fail
          go_ret
          exact ⟨ret_boolT HR.out.symm, below_drewM ((Below.refl _ _).alloc (Nat.le_refl _) _) _⟩
      · have g2 : decide (nn < 0) = true := by simp; omega
        have hr : res = false := by rw [HNR.out, HNODE.out]; simp [h2]
        have HR := Lib.hid hr; have H1 := Lib.hid h1; have H2 := Lib.hid h2; clear hr h1 h2
        go_enter Tryz.func108, Tryz.ntmps108
        go_wp2_with fail
        go_quiet ((go_at_call 133; exact Calls.quiet_of_same ((H29.out _).mono fun e w' h => ⟨h.1, h.2.symm⟩)))
        go_wp2_with fail
        go_ret
        exact ⟨ret_boolT HR.out.symm, below_drewM ((Below.refl _ _).alloc (Nat.le_refl _) _) _⟩
    · have g1 : (ar != (m : Int)) = true := by simp [h1]
      have hr : res = false := by rw [HNR.out, HNODE.out]; simp [h1]
      have HR := Lib.hid hr; have H1 := Lib.hid h1; clear hr h1
      go_enter Tryz.func108, Tryz.ntmps108
      go_wp2_with fail
      go_quiet ((go_at_call 133; exact Calls.quiet_of_same ((H29.out _).mono fun e w' h => ⟨h.1, h.2.symm⟩)))
      go_wp2_with fail
      go_ret
      exact ⟨ret_boolT HR.out.symm, below_drewM ((Below.refl _ _).alloc (Nat.le_refl _) _) _⟩
end Go.Proofs.YtjaaphahfgogdaaGreat

/- Walks: the page's own answers for types: how great, how deep, right, without a kind; count. Walks: the page's Right, Same; suretykeep's Same; rows of numbers. Walks: the page's Same, suretykeep's Same. Walks: rows of numbers (In, Ints); count and Heavy. Types that a call builds: rows of kids of its own; a call as a step of a region that draws. suretykeep.Type: a copy. Walks: the page's vars, Vars; Heavy. Walks: the page's Vars; Heavy. -/
import Derived.Test.YteolbbgnkbcfmaaTyN
import Derived.Deep.LoopGhost
import Derived.Deep.QuietTactic
import Derived.BigQuiet
import Derived.Outline
import Derived.IntWalk
import Derived.StillTailTactics
import Derived.Deep.AppendLies
import Derived.Deep.RegionLaw
namespace Go.Proofs.Yteolbbgnkbcfmaa
open Go Go.RowKit
open Tp (T)

theorem sizes_take (l : List T) (k : Nat) (h : k < l.length) : Tp.sizes (l.take (k + 1)) = Tp.sizes (l.take k) + Tp.size l[k] := by
  rw [List.take_succ_eq_append_getElem h, Tp.sizes_append]; simp [Tp.sizes]
theorem sizes_take_le (l : List T) (k : Nat) : Tp.sizes (l.take k) ≤ Tp.sizes l := by
  have := Tp.sizes_append (l.take k) (l.drop k)
  rw [List.take_append_drop] at this; omega
theorem size_kid (l : List T) (k : Nat) (h : k < l.length) : Tp.size l[k] ≤ Tp.sizes l := by
  have := sizes_take l k h
  have := sizes_take_le l (k + 1)
  omega
theorem size_kids (t : T) : Tp.size t = Tp.sizes t.kids + 1 := by cases t; rfl
/-- What a loop over the kids reads. -/
theorem kid_at {n : Nat} {w wr : World} {t : T} {a : Option Addr} {cap : Nat} (h : TyAt (LT n) w t a cap) (hb : Below n w wr) (hn : n ≤ w.heap.size) {k : Nat} (hk : k < t.kids.length) :
    ∃ b o xa xcap, a = some ⟨b, o, none⟩ ∧ b < n ∧ TyAt (LT wr.heap.size) wr t.kids[k] xa xcap ∧ wr.cell? ⟨b, o + k * 3, none⟩ = some (.int .i64 t.kids[k].kind) ∧ wr.cell? ⟨b, o + k * 3 + 1, none⟩ = some (.int .i64 t.kids[k].num) ∧
      wr.cell? ⟨b, o + k * 3 + 2, none⟩ = some (.slice xa t.kids[k].kids.length xcap) := by
  have h2 := h.below hb (fun _ h => h) (fun b h => (Nat.lt_of_lt_of_le h (Nat.le_trans hn hb.size) : b < wr.heap.size)) (G' := LT wr.heap.size)
  obtain ⟨b, o, rfl, hbn, hN⟩ := h2.2.2.2.2.first (by omega)
  obtain ⟨b1, o1, e1, hbn1, _⟩ := h.2.2.2.2.first (by omega)
  injection e1 with e1; injection e1 with e1 e2 e3
  obtain ⟨xa, xcap, q1, q2, q3, q4⟩ := (hN k hk).ty
  exact ⟨b, o, xa, xcap, rfl, by rw [e1]; exact hbn1, q1, q2, q3, q4⟩

theorem depths_append : ∀ l m : List T, Tp.depths (l ++ m) = max (Tp.depths l) (Tp.depths m)
  | [], m => by simp [Tp.depths]
  | t :: r, m => by simp only [List.cons_append, Tp.depths, depths_append r m]; omega
theorem depths_take (l : List T) (k : Nat) (h : k < l.length) : Tp.depths (l.take (k + 1)) = max (Tp.depths (l.take k)) (Tp.depth l[k]) := by
  rw [List.take_succ_eq_append_getElem h, depths_append]; simp [Tp.depths]
theorem depth_kids (t : T) : Tp.depth t = Tp.depths t.kids + 1 := by cases t; rfl
theorem depths_take_le (l : List T) (k : Nat) : Tp.depths (l.take k) ≤ Tp.sizes l := Nat.le_trans (Tp.depths_le_sizes _) (sizes_take_le l k)
theorem withouts_take (x : Int) (l : List T) (k : Nat) (h : k < l.length) : Tp.withouts x (l.take (k + 1)) = (Tp.withouts x (l.take k) && Tp.without x l[k]) := by
  have ap : ∀ a b : List T, Tp.withouts x (a ++ b) = (Tp.withouts x a && Tp.withouts x b) := by
    intro a; induction a with
    | nil => intro b; simp [Tp.withouts]
    | cons t r ih => intro b; simp [Tp.withouts, ih, Bool.and_assoc]
  rw [List.take_succ_eq_append_getElem h, ap]; simp [Tp.withouts]
theorem withouts_get (x : Int) (l : List T) (k : Nat) (h : k < l.length) (hf : Tp.without x l[k] = false) : Tp.withouts x l = false := by
  have ap : ∀ a b : List T, Tp.withouts x (a ++ b) = (Tp.withouts x a && Tp.withouts x b) := by
    intro a; induction a with
    | nil => intro b; simp [Tp.withouts]
    | cons t r ih => intro b; simp [Tp.withouts, ih, Bool.and_assoc]
  have e := ap (l.take (k + 1)) (l.drop (k + 1))
  rw [List.take_append_drop, withouts_take x l k h, hf] at e
  simpa using e
theorem without_kids (x : Int) (t : T) : Tp.without x t = (!decide (t.kind = x) && Tp.withouts x t.kids) := by cases t; rfl

set_option maxHeartbeats 1000000 in
theorem rsize_any : ∀ (n : Nat) (t : T) (a : Option Addr) (cap : Nat) (w : World), Tp.size t ≤ n → Tp.size t ≤ 10000 → TyAt (LT w.heap.size) w t a cap →
    Calls Try.prog 86 #[tv t a cap] w fun e w' => e = .returned (.int .i64 (Tp.size t : Int)) ∧ Below w.heap.size w w' := by
  intro n
  induction n with
  | zero => intro t a cap w h; have := Tp.size_pos t; omega
  | succ n ih =>
    intro t a cap w hn hs hty
    have hm10 : (t.kids.length : Int) ≤ 10000 := by have := Tp.length_le_sizes t.kids; have := size_kids t; omega
    have HN := Lib.hid hn; have HS := Lib.hid hs; have HTY := Lib.hid hty; have IH := Lib.hid ih; clear hn hs hty ih
    have hlen : ∃ m, t.kids.length = m := ⟨_, rfl⟩
    obtain ⟨m, hm⟩ := hlen
    unfold tv
    rw [hm] at hm10 ⊢
    have HM := Lib.hid hm; clear hm
    go_enter Try.func86, Try.ntmps86
    go_wp2_with fail
    go_loopg [3, 4] m (fun gk v i wr => ∃ k : Nat, k ≤ m ∧ i = .int .i64 k ∧ v = .int .i64 (1 + (Tp.sizes (t.kids.take k) : Nat)) ∧ Below (w.heap.size + 1) (w.alloc (.cells #[.int .i64 t.kind, .int .i64 t.num, .slice a m cap] 26)) wr ∧ gk = m - k)
    case atStart => exact ⟨0, Nat.zero_le _, rfl, by simp [Tp.sizes], Below.refl _ _, rfl⟩
    case round =>
      obtain ⟨k, hk, rfl, rfl, hb, rfl⟩ := hrel
      have c2 : wr.cell? ⟨w.heap.size, 2, none⟩ = some (.slice a m cap) := cell_box (World.alloc_heap_new w _) (hb.block w.heap.size (by omega)) rfl
      have hbw : Below w.heap.size w wr := ((Below.refl _ _).alloc (Nat.le_refl _) _).trans (hb.mono (by omega))
      have HB := Lib.hid hb; have HBW := Lib.hid hbw; clear hb hbw
      by_cases hlt : k < m
      · have hkl : k < t.kids.length := by rw [HM.out]; exact hlt
        obtain ⟨b, o, xa, xcap, rfl, hbn, hx, x0, x1, x2⟩ := kid_at HTY.out HBW.out (Nat.le_refl _) hkl
        have hst := sizes_take t.kids k hkl
        have hsk := size_kid t.kids k hkl
        have hsl := sizes_take_le t.kids (k + 1)
        have hss := size_kids t
        have hcall := IH.out t.kids[k] xa xcap wr (by have := HN.out; omega) (by have := HS.out; omega) hx
        unfold tv at hcall
        obtain ⟨x, hx'⟩ : ∃ x, t.kids[k] = x := ⟨_, rfl⟩
        rw [hx'] at x0 x1 x2 hcall hst
        obtain ⟨s1, hs1⟩ : ∃ s1, Tp.sizes (t.kids.take k) = s1 := ⟨_, rfl⟩
        obtain ⟨s2, hs2⟩ : ∃ s1, Tp.size x = s1 := ⟨_, rfl⟩
        rw [hs2] at hcall hst; rw [hs1] at hst ⊢
        have hbd : (s1 : Int) + s2 ≤ 10000 := by have := HS.out; omega
        have HST := Lib.hid hst; have HC := Lib.hid hcall; have HX := Lib.hid hx'
        clear hst hcall hsk hsl hss hx hx' hs1 hs2
        have hp1 : (0 : Int) ≤ s1 := Int.natCast_nonneg _
        have hp2 : (0 : Int) ≤ s2 := Int.natCast_nonneg _
        go_wp2_with (go_at_call 86; refine HC.out.mono ?_; rintro e w' ⟨rfl, hb'⟩)
        go_roundg (m - (k + 1))
        case measure => omega
        case rel => exact ⟨k + 1, by omega, by go_num, by rw [HST.out]; go_num, HB.out.trans (hb'.mono (by have := HB.out.size; rw [World.size_alloc] at this; exact this)), rfl⟩
      · obtain rfl : k = m := by omega
        go_wp2_with fail
        go_ret
        exact ⟨ret_intT (by rw [List.take_of_length_le (by rw [HM.out]; exact Nat.le_refl _), size_kids t]; omega), HBW.out⟩

set_option maxHeartbeats 1000000 in
theorem rwithout_any (q : Int) : ∀ (n : Nat) (t : T) (a : Option Addr) (cap : Nat) (w : World), Tp.size t ≤ n → TyAt (LT w.heap.size) w t a cap →
    Calls Try.prog 48 #[tv t a cap, .int .i64 q] w fun e w' => e = .returned (.bool (Tp.without q t)) ∧ Below w.heap.size w w' := by
  intro n
  induction n with
  | zero => intro t a cap w h; have := Tp.size_pos t; omega
  | succ n ih =>
    intro t a cap w hn hty
    have hm10 : (t.kids.length : Int) ≤ 9223372036854775807 := by have h1 := hty.2.2.1; have h2 := hty.2.2.2.1; unfold maxLen at h2; omega
    have HN := Lib.hid hn; have HTY := Lib.hid hty; have IH := Lib.hid ih; clear hn hty ih
    have hlen : ∃ m, t.kids.length = m := ⟨_, rfl⟩
    obtain ⟨m, hm⟩ := hlen
    obtain ⟨kk, hkk⟩ : ∃ kk, t.kind = kk := ⟨_, rfl⟩
    obtain ⟨res, hres⟩ : ∃ res, Tp.without q t = res := ⟨_, rfl⟩
    unfold tv
    rw [hm] at hm10 ⊢
    rw [hkk, hres]
    have HM := Lib.hid hm; have HKK := Lib.hid hkk; have HRES := Lib.hid hres; clear hm hkk hres
    by_cases hkq : kk = q
    · have hr : res = false := by rw [← HRES.out, without_kids, HKK.out]; simp [hkq]
      have HR := Lib.hid hr; clear hr
      have hkq' : (kk == q) = true := by simp [hkq]
      have HKQ := Lib.hid hkq; clear hkq
      go_enter Try.func48, Try.ntmps48
      go_wp2_with fail
      go_ret
      exact ⟨ret_boolT HR.out.symm, (Below.refl _ _).alloc (Nat.le_refl _) _⟩
    · have hr : res = Tp.withouts q t.kids := by rw [← HRES.out, without_kids, HKK.out]; simp [hkq]
      have HR := Lib.hid hr; clear hr
      have hkq' : (kk == q) = false := by simp [hkq]
      have HKQ := Lib.hid hkq; clear hkq
      go_enter Try.func48, Try.ntmps48
      go_wp2_with fail
      go_loopg [5] m (fun gk i wr => ∃ k : Nat, k ≤ m ∧ i = .int .i64 k ∧ Tp.withouts q (t.kids.take k) = true ∧ Below (w.heap.size + 1) (w.alloc (.cells #[.int .i64 kk, .int .i64 t.num, .slice a m cap] 26)) wr ∧ gk = m - k)
      case atStart => exact ⟨0, Nat.zero_le _, rfl, rfl, Below.refl _ _, rfl⟩
      case round =>
        obtain ⟨k, hk, rfl, hw, hb, rfl⟩ := hrel
        have c2 : wr.cell? ⟨w.heap.size, 2, none⟩ = some (.slice a m cap) := cell_box (World.alloc_heap_new w _) (hb.block w.heap.size (by omega)) rfl
        have hbw : Below w.heap.size w wr := ((Below.refl _ _).alloc (Nat.le_refl _) _).trans (hb.mono (by omega))
        have HB := Lib.hid hb; have HBW := Lib.hid hbw; have HW := Lib.hid hw; clear hb hbw hw
        by_cases hlt : k < m
        · have hkl : k < t.kids.length := by rw [HM.out]; exact hlt
          obtain ⟨b, o, xa, xcap, rfl, hbn, hx, x0, x1, x2⟩ := kid_at HTY.out HBW.out (Nat.le_refl _) hkl
          have hst := withouts_take q t.kids k hkl
          have hge := withouts_get q t.kids k hkl
          have hsk := size_kid t.kids k hkl
          have hss := size_kids t
          have hcall := IH.out t.kids[k] xa xcap wr (by have := HN.out; omega) hx
          unfold tv at hcall
          obtain ⟨x, hx'⟩ : ∃ x, t.kids[k] = x := ⟨_, rfl⟩
          rw [hx'] at x0 x1 x2 hcall hst hge
          obtain ⟨s2, hs2⟩ : ∃ s1, Tp.without q x = s1 := ⟨_, rfl⟩
          rw [hs2] at hcall hst hge
          have HST := Lib.hid hst; have HC := Lib.hid hcall; have HGE := Lib.hid hge
          clear hst hcall hsk hss hx hx' hs2 hge
          cases s2 with
          | true =>
            go_wp2_with (go_at_call 48; refine HC.out.mono ?_; rintro e w' ⟨rfl, hb'⟩)
            go_roundg (m - (k + 1))
            case measure => omega
            case rel => exact ⟨k + 1, by omega, by go_num, by rw [HST.out, HW.out]; rfl, HB.out.trans (hb'.mono (by have := HB.out.size; rw [World.size_alloc] at this; exact this)), rfl⟩
          | false =>
            go_wp2_with (go_at_call 48; refine HC.out.mono ?_; rintro e w' ⟨rfl, hb'⟩)
            go_ret
            exact ⟨ret_boolT (by rw [HR.out]; exact (HGE.out trivial).symm), HBW.out.trans (hb'.mono HBW.out.size)⟩
        · obtain rfl : k = m := by omega
          go_wp2_with fail
          go_ret
          exact ⟨ret_boolT (by rw [HR.out, ← HW.out, List.take_of_length_le (by rw [HM.out]; exact Nat.le_refl _)]), HBW.out⟩

end Go.Proofs.Yteolbbgnkbcfmaa
namespace Go.Proofs.Yteolbbgnkbcfmaa
open Go Go.RowKit
open Tp (T)

theorem rights_append : ∀ l m : List T, Tp.rights (l ++ m) = (Tp.rights l && Tp.rights m)
  | [], m => by simp [Tp.rights]
  | t :: r, m => by simp [Tp.rights, rights_append r m, Bool.and_assoc]
theorem rights_take (l : List T) (k : Nat) (h : k < l.length) : Tp.rights (l.take (k + 1)) = (Tp.rights (l.take k) && Tp.right l[k]) := by
  rw [List.take_succ_eq_append_getElem h, rights_append]; simp [Tp.rights]
theorem rights_get (l : List T) (k : Nat) (h : k < l.length) (hf : Tp.right l[k] = false) : Tp.rights l = false := by
  have e := rights_append (l.take (k + 1)) (l.drop (k + 1))
  rw [List.take_append_drop, rights_take l k h, hf] at e
  simpa using e
theorem right_kids (t : T) : Tp.right t = (Tp.nodeRight t.kind t.num t.kids.length && Tp.rights t.kids) := by cases t; rfl

theorem below_drewM {B : Nat} {a w : World} (h : Below B a w) (n : Nat) : Below B a (w.drewN n) := ⟨h.os, h.tape, h.output, h.size, h.block⟩

set_option maxRecDepth 100000 in
set_option maxHeartbeats 2000000 in
theorem rright_any : ∀ (n : Nat) (t : T) (a : Option Addr) (cap : Nat) (w : World), Tp.size t ≤ n → TyAt (LT w.heap.size) w t a cap →
    Calls Try.prog 20 #[tv t a cap] w fun e w' => e = .returned (.bool (Tp.right t)) ∧ Below w.heap.size w w' := by
  intro n
  induction n with
  | zero => intro t a cap w h; have := Tp.size_pos t; omega
  | succ n ih =>
    intro t a cap w hn hty
    have hm10 : (t.kids.length : Int) ≤ 9223372036854775807 := by have h1 := hty.2.2.1; have h2 := hty.2.2.2.1; unfold maxLen at h2; omega
    have HN := Lib.hid hn; have HTY := Lib.hid hty; have IH := Lib.hid ih; clear hn hty ih
    have hlen : ∃ m, t.kids.length = m := ⟨_, rfl⟩
    obtain ⟨m, hm⟩ := hlen
    obtain ⟨kk, hkk⟩ : ∃ kk, t.kind = kk := ⟨_, rfl⟩
    obtain ⟨nn, hnn⟩ : ∃ kk, t.num = kk := ⟨_, rfl⟩
    obtain ⟨res, hres⟩ : ∃ res, Tp.right t = res := ⟨_, rfl⟩
    obtain ⟨ar, har⟩ : ∃ ar, Tp.arity kk = ar := ⟨_, rfl⟩
    have h29 := fun w => kids_any kk w
    rw [har] at h29
    unfold tv
    rw [hm] at hm10 ⊢
    rw [hkk, hnn, hres]
    have hnr : res = (Tp.nodeRight kk nn m && Tp.rights t.kids) := by rw [← hres, right_kids, hkk, hnn, hm]
    have HM := Lib.hid hm; have HKK := Lib.hid hkk; have HNN := Lib.hid hnn; have HAR := Lib.hid har; have HRES := Lib.hid hres; have HNR := Lib.hid hnr; have H29 := Lib.hid h29; clear hm hkk hnn hres har hnr h29
    have hnode : Tp.nodeRight kk nn m = (decide (ar = m) && decide (0 ≤ nn) && decide (nn ≤ 1048576) && (decide (kk = 6) || decide (nn = 0))) := by unfold Tp.nodeRight; rw [HAR.out]
    have HNODE := Lib.hid hnode; clear hnode
    by_cases h1 : ar = m
    · have g1 : (ar != (m : Int)) = false := by simp [h1]
      by_cases h2 : 0 ≤ nn
      · have g2 : decide (nn < 0) = false := by simp; omega
        by_cases h3 : nn ≤ 1048576
        · have g3 : decide (1048576 < nn) = false := by simp; omega
          by_cases h4 : kk = 6
          · have g4 : (kk != 6) = false := by simp [h4]
            have hr : res = Tp.rights t.kids := by rw [HNR.out, HNODE.out]; simp [h1, h2, h3, h4]
            have HR := Lib.hid hr; have H1 := Lib.hid h1; have H2 := Lib.hid h2; have H3 := Lib.hid h3; have H4 := Lib.hid h4; clear hr h1 h2 h3 h4
            go_enter Try.func20, Try.ntmps20
            go_wp2_with fail
            go_quiet ((go_at_call 78; exact Calls.quiet_of_same ((H29.out _).mono fun e w' h => ⟨h.1, h.2.symm⟩)))
            go_wp2_with fail
            go_loopg [3] m (fun gk i wr => ∃ k : Nat, k ≤ m ∧ i = .int .i64 k ∧ Tp.rights (t.kids.take k) = true ∧ Below (w.heap.size + 1) (w.alloc (.cells #[.int .i64 kk, .int .i64 nn, .slice a m cap] 26)) wr ∧ gk = m - k)
            case atStart => exact ⟨0, Nat.zero_le _, rfl, rfl, below_drewM (Below.refl _ _) _, rfl⟩
            case round =>
              obtain ⟨k, hk, rfl, hw, hb, rfl⟩ := hrel
              have c2 : wr.cell? ⟨w.heap.size, 2, none⟩ = some (.slice a m cap) := cell_box (World.alloc_heap_new w _) (hb.block w.heap.size (by omega)) rfl
              have hbw : Below w.heap.size w wr := ((Below.refl _ _).alloc (Nat.le_refl _) _).trans (hb.mono (by omega))
              have HB := Lib.hid hb; have HBW := Lib.hid hbw; have HW := Lib.hid hw; clear hb hbw hw
              by_cases hlt : k < m
              · have hkl : k < t.kids.length := by rw [HM.out]; exact hlt
                obtain ⟨b, o, xa, xcap, rfl, hbn, hx, x0, x1, x2⟩ := kid_at HTY.out HBW.out (Nat.le_refl _) hkl
                have hst := rights_take t.kids k hkl
                have hge := rights_get t.kids k hkl
                have hsk := size_kid t.kids k hkl
                have hss := size_kids t
                have hcall := IH.out t.kids[k] xa xcap wr (by have := HN.out; omega) hx
                unfold tv at hcall
                obtain ⟨x, hx'⟩ : ∃ x, t.kids[k] = x := ⟨_, rfl⟩
                rw [hx'] at x0 x1 x2 hcall hst hge
                obtain ⟨s2, hs2⟩ : ∃ s1, Tp.right x = s1 := ⟨_, rfl⟩
                rw [hs2] at hcall hst hge
                have HST := Lib.hid hst; have HC := Lib.hid hcall; have HGE := Lib.hid hge
                clear hst hcall hsk hss hx hx' hs2 hge
                cases s2 with
                | true =>
                  go_wp2_with (go_at_call 20; refine HC.out.mono ?_; rintro e w' ⟨rfl, hb'⟩)
                  go_roundg (m - (k + 1))
                  case measure => omega
                  case rel => exact ⟨k + 1, by omega, by go_num, by rw [HST.out, HW.out]; rfl, HB.out.trans (hb'.mono (by have := HB.out.size; rw [World.size_alloc] at this; exact this)), rfl⟩
                | false =>
                  go_wp2_with (go_at_call 20; refine HC.out.mono ?_; rintro e w' ⟨rfl, hb'⟩)
                  go_ret
                  exact ⟨ret_boolT (by rw [HR.out]; exact (HGE.out trivial).symm), HBW.out.trans (hb'.mono HBW.out.size)⟩
              · obtain rfl : k = m := by omega
                go_wp2_with fail
                go_ret
                exact ⟨ret_boolT (by rw [HR.out, ← HW.out, List.take_of_length_le (by rw [HM.out]; exact Nat.le_refl _)]), HBW.out⟩
          · have g4 : (kk != 6) = true := by simp [h4]
            by_cases h5 : nn = 0
            · have g5 : (nn != 0) = false := by simp [h5]
              have hr : res = Tp.rights t.kids := by rw [HNR.out, HNODE.out]; simp [h1, h4, h5]
              have HR := Lib.hid hr; have H1 := Lib.hid h1; have H2 := Lib.hid h2; have H3 := Lib.hid h3; have H4 := Lib.hid h4; have H5 := Lib.hid h5; clear hr h1 h2 h3 h4 h5
              go_enter Try.func20, Try.ntmps20
              go_wp2_with fail
              go_quiet ((go_at_call 78; exact Calls.quiet_of_same ((H29.out _).mono fun e w' h => ⟨h.1, h.2.symm⟩)))
              go_wp2_with fail
              go_loopg [3] m (fun gk i wr => ∃ k : Nat, k ≤ m ∧ i = .int .i64 k ∧ Tp.rights (t.kids.take k) = true ∧ Below (w.heap.size + 1) (w.alloc (.cells #[.int .i64 kk, .int .i64 nn, .slice a m cap] 26)) wr ∧ gk = m - k)
              case atStart => exact ⟨0, Nat.zero_le _, rfl, rfl, below_drewM (Below.refl _ _) _, rfl⟩
              case round =>
                obtain ⟨k, hk, rfl, hw, hb, rfl⟩ := hrel
                have c2 : wr.cell? ⟨w.heap.size, 2, none⟩ = some (.slice a m cap) := cell_box (World.alloc_heap_new w _) (hb.block w.heap.size (by omega)) rfl
                have hbw : Below w.heap.size w wr := ((Below.refl _ _).alloc (Nat.le_refl _) _).trans (hb.mono (by omega))
                have HB := Lib.hid hb; have HBW := Lib.hid hbw; have HW := Lib.hid hw; clear hb hbw hw
                by_cases hlt : k < m
                · have hkl : k < t.kids.length := by rw [HM.out]; exact hlt
                  obtain ⟨b, o, xa, xcap, rfl, hbn, hx, x0, x1, x2⟩ := kid_at HTY.out HBW.out (Nat.le_refl _) hkl
                  have hst := rights_take t.kids k hkl
                  have hge := rights_get t.kids k hkl
                  have hsk := size_kid t.kids k hkl
                  have hss := size_kids t
                  have hcall := IH.out t.kids[k] xa xcap wr (by have := HN.out; omega) hx
                  unfold tv at hcall
                  obtain ⟨x, hx'⟩ : ∃ x, t.kids[k] = x := ⟨_, rfl⟩
                  rw [hx'] at x0 x1 x2 hcall hst hge
                  obtain ⟨s2, hs2⟩ : ∃ s1, Tp.right x = s1 := ⟨_, rfl⟩
                  rw [hs2] at hcall hst hge
                  have HST := Lib.hid hst; have HC := Lib.hid hcall; have HGE := Lib.hid hge
                  clear hst hcall hsk hss hx hx' hs2 hge
                  cases s2 with
                  | true =>
                    go_wp2_with (go_at_call 20; refine HC.out.mono ?_; rintro e w' ⟨rfl, hb'⟩)
                    go_roundg (m - (k + 1))
                    case measure => omega
                    case rel => exact ⟨k + 1, by omega, by go_num, by rw [HST.out, HW.out]; rfl, HB.out.trans (hb'.mono (by have := HB.out.size; rw [World.size_alloc] at this; exact this)), rfl⟩
                  | false =>
                    go_wp2_with (go_at_call 20; refine HC.out.mono ?_; rintro e w' ⟨rfl, hb'⟩)
                    go_ret
                    exact ⟨ret_boolT (by rw [HR.out]; exact (HGE.out trivial).symm), HBW.out.trans (hb'.mono HBW.out.size)⟩
                · obtain rfl : k = m := by omega
                  go_wp2_with fail
                  go_ret
                  exact ⟨ret_boolT (by rw [HR.out, ← HW.out, List.take_of_length_le (by rw [HM.out]; exact Nat.le_refl _)]), HBW.out⟩
            · have g5 : (nn != 0) = true := by simp [h5]
              have hr : res = false := by rw [HNR.out, HNODE.out]; simp [h4, h5]
              have HR := Lib.hid hr; have H1 := Lib.hid h1; have H2 := Lib.hid h2; have H3 := Lib.hid h3; have H4 := Lib.hid h4; have H5 := Lib.hid h5; clear hr h1 h2 h3 h4 h5
              go_enter Try.func20, Try.ntmps20
              go_wp2_with fail
              go_quiet ((go_at_call 78; exact Calls.quiet_of_same ((H29.out _).mono fun e w' h => ⟨h.1, h.2.symm⟩)))
              go_wp2_with fail
              go_ret
              exact ⟨ret_boolT HR.out.symm, below_drewM ((Below.refl _ _).alloc (Nat.le_refl _) _) _⟩
        · have g3 : decide (1048576 < nn) = true := by simp; omega
          have hr : res = false := by rw [HNR.out, HNODE.out]; simp [h3]
          have HR := Lib.hid hr; have H1 := Lib.hid h1; have H2 := Lib.hid h2; have H3 := Lib.hid h3; clear hr h1 h2 h3
          go_enter Try.func20, Try.ntmps20
          go_wp2_with fail
          go_quiet ((go_at_call 78; exact Calls.quiet_of_same ((H29.out _).mono fun e w' h => ⟨h.1, h.2.symm⟩)))
          go_wp2_with fail
          go_ret
          exact ⟨ret_boolT HR.out.symm, below_drewM ((Below.refl _ _).alloc (Nat.le_refl _) _) _⟩
      · have g2 : decide (nn < 0) = true := by simp; omega
        have hr : res = false := by rw [HNR.out, HNODE.out]; simp [h2]
        have HR := Lib.hid hr; have H1 := Lib.hid h1; have H2 := Lib.hid h2; clear hr h1 h2
        go_enter Try.func20, Try.ntmps20
        go_wp2_with fail
        go_quiet ((go_at_call 78; exact Calls.quiet_of_same ((H29.out _).mono fun e w' h => ⟨h.1, h.2.symm⟩)))
        go_wp2_with fail
        go_ret
        exact ⟨ret_boolT HR.out.symm, below_drewM ((Below.refl _ _).alloc (Nat.le_refl _) _) _⟩
    · have g1 : (ar != (m : Int)) = true := by simp [h1]
      have hr : res = false := by rw [HNR.out, HNODE.out]; simp [h1]
      have HR := Lib.hid hr; have H1 := Lib.hid h1; clear hr h1
      go_enter Try.func20, Try.ntmps20
      go_wp2_with fail
      go_quiet ((go_at_call 78; exact Calls.quiet_of_same ((H29.out _).mono fun e w' h => ⟨h.1, h.2.symm⟩)))
      go_wp2_with fail
      go_ret
      exact ⟨ret_boolT HR.out.symm, below_drewM ((Below.refl _ _).alloc (Nat.le_refl _) _) _⟩
end Go.Proofs.Yteolbbgnkbcfmaa
namespace Go.Proofs.Yteolbbgnkbcfmaa
open Go Go.RowKit
open Tp (T)

theorem sames_append : ∀ (a b c d : List T), a.length = c.length → Tp.sames (a ++ b) (c ++ d) = (Tp.sames a c && Tp.sames b d)
  | [], b, [], d, _ => by simp [Tp.sames]
  | x :: r, b, y :: s, d, h => by
    simp only [List.cons_append, Tp.sames, sames_append r b s d (by simpa using h), Bool.and_assoc]
theorem sames_take (l m : List T) (k : Nat) (h : k < l.length) (h' : k < m.length) : Tp.sames (l.take (k + 1)) (m.take (k + 1)) = (Tp.sames (l.take k) (m.take k) && Tp.same l[k] m[k]) := by
  rw [List.take_succ_eq_append_getElem h, List.take_succ_eq_append_getElem h', sames_append _ _ _ _ (by simp; omega)]; simp [Tp.sames]
theorem sames_get (l m : List T) (k : Nat) (h : k < l.length) (h' : k < m.length) (hf : Tp.same l[k] m[k] = false) : Tp.sames l m = false := by
  have e := sames_append (l.take (k + 1)) (l.drop (k + 1)) (m.take (k + 1)) (m.drop (k + 1)) (by simp; omega)
  rw [List.take_append_drop, List.take_append_drop, sames_take l m k h h', hf] at e
  simpa using e

theorem below_undrew {w w' : World} (h : Below w.drew.heap.size w.drew w') : Below w.heap.size w w' := ⟨h.os, h.tape, h.output, h.size, h.block⟩

set_option maxRecDepth 100000 in
set_option maxHeartbeats 2000000 in
theorem ksame_any : ∀ (n : Nat) (t u : T) (a : Option Addr) (cap : Nat) (a' : Option Addr) (cap' : Nat) (w : World), Tp.size t ≤ n → TyAt (LT w.heap.size) w t a cap → TyAt (LT w.heap.size) w u a' cap' →
    Calls Try.prog 28 #[tv t a cap, tv u a' cap'] w fun e w' => e = .returned (.bool (Tp.same t u)) ∧ Below w.heap.size w w' := by
  intro n
  induction n with
  | zero => intro t u a cap a' cap' w h; have := Tp.size_pos t; omega
  | succ n ih =>
    intro t u a cap a' cap' w hn hty hty'
    have hm10 : (t.kids.length : Int) ≤ 9223372036854775807 := by have h1 := hty.2.2.1; have h2 := hty.2.2.2.1; unfold maxLen at h2; omega
    have HN := Lib.hid hn; have HTY := Lib.hid hty; have HTY' := Lib.hid hty'; have IH := Lib.hid ih; clear hn hty hty' ih
    obtain ⟨m, hm⟩ : ∃ m, t.kids.length = m := ⟨_, rfl⟩
    obtain ⟨m', hm'⟩ : ∃ m, u.kids.length = m := ⟨_, rfl⟩
    obtain ⟨kk, hkk⟩ : ∃ kk, t.kind = kk := ⟨_, rfl⟩
    obtain ⟨kk', hkk'⟩ : ∃ kk, u.kind = kk := ⟨_, rfl⟩
    obtain ⟨nn, hnn⟩ : ∃ kk, t.num = kk := ⟨_, rfl⟩
    obtain ⟨nn', hnn'⟩ : ∃ kk, u.num = kk := ⟨_, rfl⟩
    obtain ⟨res, hres⟩ : ∃ res, Tp.same t u = res := ⟨_, rfl⟩
    have hsn : res = (decide (kk = kk') && decide (nn = nn') && decide (m = m') && Tp.sames t.kids u.kids) := by rw [← hres, ← hkk, ← hkk', ← hnn, ← hnn', ← hm, ← hm']; cases t; cases u; rfl
    unfold tv
    rw [hm] at hm10 ⊢
    rw [hkk, hnn, hm', hkk', hnn', hres]
    have HM := Lib.hid hm; have HM' := Lib.hid hm'; have HSN := Lib.hid hsn; clear hm hm' hkk hnn hkk' hnn' hres hsn
    by_cases hal : (decide (kk = kk') && decide (nn = nn') && decide (m = m')) = true
    · have hr : res = Tp.sames t.kids u.kids := by rw [HSN.out, hal, Bool.true_and]
      simp only [Bool.and_eq_true, decide_eq_true_eq] at hal
      obtain ⟨⟨e1, e2⟩, e3⟩ := hal
      subst e1 e2 e3
      have HR := Lib.hid hr; clear hr
      go_enter Try.func28, Try.ntmps28
      go_wp2_with fail
      go_loopg [5] m (fun gk i wr => ∃ k : Nat, k ≤ m ∧ i = .int .i64 k ∧ Tp.sames (t.kids.take k) (u.kids.take k) = true ∧ Below (w.heap.size + 1 + 1) ((w.alloc (.cells #[.int .i64 kk, .int .i64 nn, .slice a m cap] 26)).alloc (.cells #[.int .i64 kk, .int .i64 nn, .slice a' m cap'] 26)) wr ∧ gk = m - k)
      case atStart => exact ⟨0, Nat.zero_le _, rfl, rfl, Below.refl _ _, rfl⟩
      case round =>
        obtain ⟨k, hk, rfl, hw, hb, rfl⟩ := hrel
        have c2 : wr.cell? ⟨w.heap.size, 2, none⟩ = some (.slice a m cap) := cell_box (box1 w _ _ _ _) (hb.block w.heap.size (by omega)) rfl
        have c3 : wr.cell? ⟨w.heap.size + 1, 2, none⟩ = some (.slice a' m cap') := cell_box (box2 w _ _ _ _) (hb.block (w.heap.size + 1) (by omega)) rfl
        have hbw : Below w.heap.size w wr := (((Below.refl _ _).alloc (Nat.le_refl _) _).alloc (by simp) _).trans (hb.mono (by omega))
        have HB := Lib.hid hb; have HBW := Lib.hid hbw; have HW := Lib.hid hw; clear hb hbw hw
        by_cases hlt : k < m
        · have hkl : k < t.kids.length := by rw [HM.out]; exact hlt
          have hkl' : k < u.kids.length := by rw [HM'.out]; exact hlt
          obtain ⟨b, o, xa, xcap, rfl, hbn, hx, x0, x1, x2⟩ := kid_at HTY.out HBW.out (Nat.le_refl _) hkl
          obtain ⟨b', o', ya, ycap, rfl, hbn', hy, y0, y1, y2⟩ := kid_at HTY'.out HBW.out (Nat.le_refl _) hkl'
          have hst := sames_take t.kids u.kids k hkl hkl'
          have hge := sames_get t.kids u.kids k hkl hkl'
          have hsk := size_kid t.kids k hkl
          have hss := size_kids t
          obtain ⟨wd, hwd⟩ : ∃ wd, wr.drew = wd := ⟨_, rfl⟩
          have hcall := fun (nq : Nat) => IH.out t.kids[k] u.kids[k] xa xcap ya ycap (wr.drewN nq) (by have := HN.out; omega) (hx.below (below_drewM (Below.refl wr.heap.size wr) nq) (fun _ h => h) (fun _ h => h)) (hy.below (below_drewM (Below.refl wr.heap.size wr) nq) (fun _ h => h) (fun _ h => h))
          have hcall1 := IH.out t.kids[k] u.kids[k] xa xcap ya ycap wr.drew (by have := HN.out; omega) (hx.below ((Below.refl wr.heap.size wr).drew) (fun _ h => h) (fun _ h => h)) (hy.below ((Below.refl wr.heap.size wr).drew) (fun _ h => h) (fun _ h => h))
          unfold tv at hcall1
          obtain ⟨x, hx'⟩ : ∃ x, t.kids[k] = x := ⟨_, rfl⟩
          obtain ⟨y, hy'⟩ : ∃ x, u.kids[k] = x := ⟨_, rfl⟩
          rw [hx'] at x0 x1 x2 hcall1 hst hge
          rw [hy'] at y0 y1 y2 hcall1 hst hge
          obtain ⟨s2, hs2⟩ : ∃ s1, Tp.same x y = s1 := ⟨_, rfl⟩
          rw [hs2] at hcall1 hst hge
          have HST := Lib.hid hst; have HC := Lib.hid hcall1; have HGE := Lib.hid hge
          clear hst hcall hcall1 hsk hss hx hx' hy hy' hs2 hge hwd
          cases s2 with
          | true =>
            go_wp2_with fail
            go_still_tail 10, (by kernel_rfl)
            go_wp2_with (go_at_call 28; refine HC.out.mono ?_; rintro e w' ⟨rfl, hb'⟩)
            have hb2 := below_undrew hb'
            go_roundg (m - (k + 1))
            case measure => omega
            case rel => exact ⟨k + 1, by omega, by go_num, by rw [HST.out, HW.out]; rfl, HB.out.trans (hb2.mono (by have := HB.out.size; rw [World.size_alloc, World.size_alloc] at this; exact this)), rfl⟩
          | false =>
            go_wp2_with fail
            go_still_tail 10, (by kernel_rfl)
            go_wp2_with (go_at_call 28; refine HC.out.mono ?_; rintro e w' ⟨rfl, hb'⟩)
            have hb2 := below_undrew hb'
            go_ret
            exact ⟨ret_boolT (by rw [HR.out]; exact (HGE.out trivial).symm), HBW.out.trans (hb2.mono HBW.out.size)⟩
        · obtain rfl : k = m := by omega
          go_wp2_with fail
          go_ret
          exact ⟨ret_boolT (by rw [HR.out, ← HW.out, List.take_of_length_le (by rw [HM.out]; exact Nat.le_refl _), List.take_of_length_le (by rw [HM'.out]; exact Nat.le_refl _)]), HBW.out⟩
    · have hr : res = false := by rw [HSN.out]; simp only [Bool.not_eq_true] at hal; rw [hal, Bool.false_and]
      simp only [Bool.and_eq_true, decide_eq_true_eq, not_and] at hal
      have HR := Lib.hid hr; have HAL := Lib.hid hal; clear hr hal
      by_cases e1 : kk = kk'
      · have g1 : (kk != kk') = false := by simp [e1]
        by_cases e2 : nn = nn'
        · have g2 : (nn != nn') = false := by simp [e2]
          have e3 := HAL.out ⟨e1, e2⟩
          have g3 : ((m : Int) != (m' : Int)) = true := by simp; omega
          have E1 := Lib.hid e1; have E2 := Lib.hid e2; have E3 := Lib.hid e3; clear e1 e2 e3
          go_enter Try.func28, Try.ntmps28
          go_wp2_with fail
          go_ret
          exact ⟨ret_boolT HR.out.symm, ((Below.refl _ _).alloc (Nat.le_refl _) _).alloc (by simp) _⟩
        · have g2 : (nn != nn') = true := by simp [e2]
          have E1 := Lib.hid e1; have E2 := Lib.hid e2; clear e1 e2
          go_enter Try.func28, Try.ntmps28
          go_wp2_with fail
          go_ret
          exact ⟨ret_boolT HR.out.symm, ((Below.refl _ _).alloc (Nat.le_refl _) _).alloc (by simp) _⟩
      · have g1 : (kk != kk') = true := by simp [e1]
        have E1 := Lib.hid e1; clear e1
        go_enter Try.func28, Try.ntmps28
        go_wp2_with fail
        go_ret
        exact ⟨ret_boolT HR.out.symm, ((Below.refl _ _).alloc (Nat.le_refl _) _).alloc (by simp) _⟩

end Go.Proofs.Yteolbbgnkbcfmaa
namespace Go.Proofs.Yteolbbgnkbcfmaa
open Go Go.RowKit
open Tp (T)

/-- A slice that begins at a holds these numbers. -/
def IntRow (w : World) (a : Option Addr) (L : List Int) : Prop := L = [] ∨ ∃ b o, a = some ⟨b, o, none⟩ ∧ b < w.heap.size ∧ ∀ i (h : i < L.length), w.cell? ⟨b, o + i, none⟩ = some (.int .i64 L[i])
theorem IntRow.of_own {w : World} {B n c : Nat} {e : TypeId} {a : Option Addr} {L : List Int} (h : w.ownsRow B e 1 (.slice a n c) L.length (L.map (Value.int .i64))) : n = L.length ∧ IntRow w a L := by
  obtain ⟨a', cap', e⟩ := own_shapeT h
  injection e with e1 e2 e3
  refine ⟨e2, ?_⟩
  by_cases h0 : L = []
  · exact Or.inl h0
  · obtain ⟨g, cap2, hv, hlt, hlt2⟩ := h.form (List.length_pos_iff.2 h0)
    injection hv with hv1 hv2 hv3
    subst hv1
    refine Or.inr ⟨g, 0, rfl, hlt2, fun i hi => ?_⟩
    have hc := h.cells (g := g) rfl i (.int .i64 L[i]) (by simp [hi])
    rw [add_flat] at hc; exact hc
theorem IntRow.below {w w' : World} {a : Option Addr} {L : List Int} {B : Nat} (h : IntRow w a L) (hb : Below B w w') (hB : w.heap.size ≤ B) : IntRow w' a L := by
  rcases h with h | ⟨b, o, h1, h2, h3⟩
  · exact .inl h
  · exact .inr ⟨b, o, h1, Nat.lt_of_lt_of_le h2 hb.size, fun i hi => (hb.cell (p := ⟨b, o + i, none⟩) (Nat.lt_of_lt_of_le h2 hB)).trans (h3 i hi)⟩
theorem IntRow.take {w : World} {a : Option Addr} {L : List Int} (h : IntRow w a L) (k : Nat) : IntRow w a (L.take k) := by
  rcases h with h | ⟨b, o, h1, h2, h3⟩
  · exact .inl (by rw [h]; simp)
  · exact .inr ⟨b, o, h1, h2, fun i hi => by rw [h3 i (by rw [List.length_take] at hi; omega)]; simp⟩

theorem mem_take_succ {L : List Int} {k : Nat} (h : k < L.length) (n : Int) : n ∈ L.take (k + 1) ↔ n ∈ L.take k ∨ n = L[k] := by
  rw [List.take_succ_eq_append_getElem h, List.mem_append, List.mem_singleton]
set_option maxHeartbeats 1000000 in
theorem in_any (L : List Int) (a : Option Addr) (cap : Nat) (q : Int) (w : World) (hL : L.length ≤ 1000000) (hr : IntRow w a L) :
    Calls Try.prog 76 #[.slice a L.length cap, .int .i64 q] w fun e w' => e = .returned (.bool (decide (q ∈ L))) ∧ w = w' := by
  obtain ⟨m, hm⟩ : ∃ m, L.length = m := ⟨_, rfl⟩
  obtain ⟨res, hres⟩ : ∃ res, decide (q ∈ L) = res := ⟨_, rfl⟩
  rw [hm] at hL ⊢; rw [hres]
  have HM := Lib.hid hm; have HRES := Lib.hid hres; have HR := Lib.hid hr; clear hm hres hr
  go_enter Try.func76, Try.ntmps76
  go_wp2_with fail
  go_loopg [5] m (fun gk i wr => ∃ k : Nat, k ≤ m ∧ i = .int .i64 k ∧ ¬ q ∈ L.take k ∧ w = wr ∧ gk = m - k)
  case atStart => exact ⟨0, Nat.zero_le _, rfl, by simp, rfl, rfl⟩
  case round =>
    obtain ⟨k, hk, rfl, hq, hw, rfl⟩ := hrel
    subst hw
    have HQ := Lib.hid hq; clear hq
    by_cases hlt : k < m
    · have hkl : k < L.length := by rw [HM.out]; exact hlt
      rcases HR.out with h0 | ⟨b, o, rfl, hb, hc⟩
      · rw [h0] at hkl; simp at hkl
      · have hck := hc k hkl
        have hmt := mem_take_succ hkl q
        obtain ⟨x, hx⟩ : ∃ x, L[k] = x := ⟨_, rfl⟩
        rw [hx] at hck hmt
        have hmem : x ∈ L := by rw [← hx]; exact List.getElem_mem hkl
        have HMT := Lib.hid hmt; have HMEM := Lib.hid hmem; clear hc hmt hmem hx hkl
        by_cases hxq : x = q
        · have g1 : (x == q) = true := by simp [hxq]
          have HXQ := Lib.hid hxq; clear hxq
          go_wp2_with fail
          go_ret
          exact ⟨ret_boolT (by rw [← HRES.out]; exact (decide_eq_true (HXQ.out ▸ HMEM.out)).symm), rfl⟩
        · have g1 : (x == q) = false := by simp [hxq]
          have HXQ := Lib.hid hxq; clear hxq
          go_wp2_with fail
          go_roundg (m - (k + 1))
          case measure => omega
          case rel => exact ⟨k + 1, by omega, by go_num, fun h => (HMT.out.1 h).elim HQ.out (fun e => HXQ.out e.symm), rfl, rfl⟩
    · obtain rfl : k = m := by omega
      go_wp2_with fail
      go_ret
      exact ⟨ret_boolT (by rw [← HRES.out]; exact (decide_eq_false (by have := HQ.out; rwa [List.take_of_length_le (by rw [HM.out]; exact Nat.le_refl _)] at this)).symm), rfl⟩

set_option maxHeartbeats 1000000 in
theorem ints_any (L K : List Int) (a : Option Addr) (cap : Nat) (a' : Option Addr) (cap' : Nat) (w : World) (hL : L.length ≤ 1000000) (hK : K.length ≤ 1000000) (hr : IntRow w a L) (hr' : IntRow w a' K) :
    Calls Try.prog 67 #[.slice a L.length cap, .slice a' K.length cap'] w fun e w' => e = .returned (.bool (decide (L = K))) ∧ Below w.heap.size w w' := by
  obtain ⟨m, hm⟩ : ∃ m, L.length = m := ⟨_, rfl⟩
  obtain ⟨m', hm'⟩ : ∃ m, K.length = m := ⟨_, rfl⟩
  obtain ⟨res, hres⟩ : ∃ res, decide (L = K) = res := ⟨_, rfl⟩
  rw [hm] at hL ⊢; rw [hm'] at hK ⊢; rw [hres]
  have HM := Lib.hid hm; have HM' := Lib.hid hm'; have HRES := Lib.hid hres; have HR := Lib.hid hr; have HR' := Lib.hid hr'; clear hm hm' hres hr hr'
  by_cases hmm : m = m'
  · subst hmm
    go_enter Try.func67, Try.ntmps67
    go_wp2_with fail
    go_loopg [5] m (fun gk i wr => ∃ k : Nat, k ≤ m ∧ i = .int .i64 k ∧ L.take k = K.take k ∧ Below w.heap.size w wr ∧ gk = m - k)
    case atStart => exact ⟨0, Nat.zero_le _, rfl, by simp, Below.refl _ _, rfl⟩
    case round =>
      obtain ⟨k, hk, rfl, hq, hb, rfl⟩ := hrel
      have HQ := Lib.hid hq; have HB := Lib.hid hb; clear hq hb
      by_cases hlt : k < m
      · have hkl : k < L.length := by rw [HM.out]; exact hlt
        have hkl' : k < K.length := by rw [HM'.out]; exact hlt
        rcases HR.out.below HB.out (Nat.le_refl _) with h0 | ⟨b, o, rfl, hb, hc⟩
        · rw [h0] at hkl; simp at hkl
        · rcases HR'.out.below HB.out (Nat.le_refl _) with h0 | ⟨b', o', rfl, hb', hc'⟩
          · rw [h0] at hkl'; simp at hkl'
          · have hck := hc k hkl
            have hck' := hc' k hkl'
            have htk : L.take (k + 1) = L.take k ++ [L[k]] := List.take_succ_eq_append_getElem hkl
            have htk' : K.take (k + 1) = K.take k ++ [K[k]] := List.take_succ_eq_append_getElem hkl'
            have hne : L[k] ≠ K[k] → L ≠ K := fun h e => h (by subst e; rfl)
            obtain ⟨x, hx⟩ : ∃ x, L[k] = x := ⟨_, rfl⟩
            obtain ⟨y, hy⟩ : ∃ x, K[k] = x := ⟨_, rfl⟩
            rw [hx] at hck htk hne; rw [hy] at hck' htk' hne
            have HT := Lib.hid htk; have HT' := Lib.hid htk'; have HNE := Lib.hid hne; clear hc hc' htk htk' hx hy hkl hkl' hne hb hb'
            by_cases hxq : x = y
            · have g1 : (x != y) = false := by simp [hxq]
              have HXQ := Lib.hid hxq; clear hxq
              go_wp2_with fail
              go_quiet (fail)
              go_wp2_with fail
              go_roundg (m - (k + 1))
              case measure => omega
              case rel => exact ⟨k + 1, by omega, by go_num, by rw [HT.out, HT'.out, HQ.out, HXQ.out], below_drewM HB.out _, rfl⟩
            · have g1 : (x != y) = true := by simp [hxq]
              have HXQ := Lib.hid hxq; clear hxq
              go_wp2_with fail
              go_quiet (fail)
              go_wp2_with fail
              go_ret
              exact ⟨ret_boolT (by rw [← HRES.out]; exact (decide_eq_false (HNE.out HXQ.out)).symm), below_drewM HB.out _⟩
      · obtain rfl : k = m := by omega
        go_wp2_with fail
        go_ret
        exact ⟨ret_boolT (by rw [← HRES.out]; exact (decide_eq_true (by have := HQ.out; rwa [List.take_of_length_le (by rw [HM.out]; exact Nat.le_refl _), List.take_of_length_le (by rw [HM'.out]; exact Nat.le_refl _)] at this)).symm), HB.out⟩
  · have g1 : ((m : Int) != (m' : Int)) = true := by simp; omega
    have HMM := Lib.hid hmm; clear hmm
    go_enter Try.func67, Try.ntmps67
    go_wp2_with fail
    go_ret
    exact ⟨ret_boolT (by rw [← HRES.out]; exact (decide_eq_false (fun e => HMM.out (by rw [← HM.out, ← HM'.out, e]))).symm), Below.refl _ _⟩

/-- What count tells: as many as there are, up to 600. -/
def CountPost (s : Nat) (n : Int) (w : World) (e : Ending) (w' : World) : Prop := ∃ m : Int, e = .returned (.int .i64 m) ∧ (n + s ≤ 600 → m = n + s) ∧ (600 < n + s → 600 < m) ∧ n ≤ m ∧ m ≤ max n 600 + 1 ∧ Below w.heap.size w w'

set_option maxHeartbeats 1000000 in
theorem count_any : ∀ (f : Nat) (t : T) (a : Option Addr) (cap : Nat) (n : Int) (w : World), Tp.size t ≤ f → 0 ≤ n → n ≤ 100000 → TyAt (LT w.heap.size) w t a cap →
    Calls Try.prog 51 #[tv t a cap, .int .i64 n] w (CountPost (Tp.size t) n w) := by
  intro f
  induction f with
  | zero => intro t a cap n w h; have := Tp.size_pos t; omega
  | succ f ih =>
    intro t a cap n w hn h0 hn1 hty
    have hm10 : (t.kids.length : Int) ≤ 9223372036854775807 := by have h1 := hty.2.2.1; have h2 := hty.2.2.2.1; unfold maxLen at h2; omega
    have HN := Lib.hid hn; have HTY := Lib.hid hty; have IH := Lib.hid ih; clear hn hty ih
    obtain ⟨m, hm⟩ : ∃ m, t.kids.length = m := ⟨_, rfl⟩
    unfold tv
    rw [hm] at hm10 ⊢
    have HM := Lib.hid hm; clear hm
    go_enter Try.func51, Try.ntmps51
    go_wp2_with fail
    go_loopg [1, 5] m (fun gk v i wr => ∃ (k : Nat) (x : Int), k ≤ m ∧ i = .int .i64 k ∧ v = .int .i64 x ∧ (n + 1 + (Tp.sizes (t.kids.take k) : Nat) ≤ 600 → x = n + 1 + (Tp.sizes (t.kids.take k) : Nat)) ∧ (600 < n + 1 + (Tp.sizes (t.kids.take k) : Nat) → 600 < x) ∧ n + 1 ≤ x ∧ x ≤ max n 600 + 1 ∧
      Below (w.heap.size + 1) (w.alloc (.cells #[.int .i64 t.kind, .int .i64 t.num, .slice a m cap] 26)) wr ∧ gk = m - k)
    case atStart => exact ⟨0, n + 1, Nat.zero_le _, rfl, rfl, by simp [Tp.sizes], by simp [Tp.sizes], Int.le_refl _, by omega, Below.refl _ _, rfl⟩
    case round =>
      obtain ⟨k, x, hk, rfl, rfl, q1, q2, q3, q4, hb, rfl⟩ := hrel
      have c2 : wr.cell? ⟨w.heap.size, 2, none⟩ = some (.slice a m cap) := cell_box (World.alloc_heap_new w _) (hb.block w.heap.size (by omega)) rfl
      have hbw : Below w.heap.size w wr := ((Below.refl _ _).alloc (Nat.le_refl _) _).trans (hb.mono (by omega))
      have hx100 : x ≤ 100001 := by omega
      have hx0 : 0 ≤ x := by omega
      have HB := Lib.hid hb; have HBW := Lib.hid hbw; have Q1 := Lib.hid q1; have Q2 := Lib.hid q2; have Q3 := Lib.hid q3; have Q4 := Lib.hid q4; clear hb hbw q1 q2 q3 q4
      by_cases hlt : k < m
      · have hkl : k < t.kids.length := by rw [HM.out]; exact hlt
        by_cases hx6 : x ≤ 600
        · obtain ⟨b, o, xa, xcap, rfl, hbn, hx, x0, x1, x2⟩ := kid_at HTY.out HBW.out (Nat.le_refl _) hkl
          have hst := sizes_take t.kids k hkl
          have hsk := size_kid t.kids k hkl
          have hss := size_kids t
          have hcall := IH.out t.kids[k] xa xcap x wr (by have := HN.out; omega) hx0 (by omega) hx
          unfold tv at hcall
          obtain ⟨y, hy⟩ : ∃ x, t.kids[k] = x := ⟨_, rfl⟩
          rw [hy] at x0 x1 x2 hcall hst
          obtain ⟨s2, hs2⟩ : ∃ s1, Tp.size y = s1 := ⟨_, rfl⟩
          rw [hs2] at hcall hst
          have HST := Lib.hid hst; have HC := Lib.hid hcall
          clear hst hcall hsk hss hx hy hs2
          go_wp2_with (go_at_call 51; refine HC.out.mono ?_; rintro e w' ⟨z, rfl, z1, z2, z3, z4, hb'⟩; have Z1 := Lib.hid z1; have Z2 := Lib.hid z2; have Z3 := Lib.hid z3; have Z4 := Lib.hid z4; clear z1 z2 z3 z4)
          go_roundg (m - (k + 1))
          case measure => omega
          case rel =>
            have a1 := Q1.out; have a2 := Q2.out; have a3 := Q3.out; have a4 := Q4.out; have b1 := Z1.out; have b2 := Z2.out; have b3 := Z3.out; have b4 := Z4.out; have st := HST.out
            exact ⟨k + 1, z, by omega, by go_num, rfl, by rw [st]; omega, by rw [st]; omega, by omega, by omega, HB.out.trans (hb'.mono (by have := HB.out.size; rw [World.size_alloc] at this; exact this)), rfl⟩
        · have g1 : decide (x ≤ 600) = false := by simp; omega
          have hst := sizes_take_le t.kids k
          have hss := size_kids t
          have hns : 600 < n + (Tp.size t : Nat) := by have := Q1.out; omega
          have HNS := Lib.hid hns; have HX6 := Lib.hid hx6; clear hns hst hss hx6
          go_wp2_with fail
          go_ret
          have a3 := Q3.out; have a4 := Q4.out; have ns := HNS.out; have x6 := HX6.out
          exact ⟨x, rfl, by omega, by omega, by omega, by omega, HBW.out⟩
      · obtain rfl : k = m := by omega
        have hss := size_kids t
        have htk : t.kids.take k = t.kids := List.take_of_length_le (by rw [HM.out]; exact Nat.le_refl _)
        have HTK := Lib.hid htk; have HSS := Lib.hid hss; clear hss htk
        go_wp2_with fail
        all_goals
          go_ret
          have a1 := Q1.out; have a2 := Q2.out; have a3 := Q3.out; have a4 := Q4.out; have ss := HSS.out
          rw [HTK.out] at a1 a2
          exact ⟨x, rfl, by omega, by omega, by omega, by omega, HBW.out⟩
end Go.Proofs.Yteolbbgnkbcfmaa
namespace Go.Proofs.Yteolbbgnkbcfmaa
open Go Go.RowKit
open Tp (T)

/-- A call of a Go function as one step of a region that draws. -/
theorem step_call {P : Program} {ops : Array Oper} {o : Oper} {a : Act} {w : World} {K : Act → World → Prop} {Q : Exit → Act → World → Prop} {E : Prop} (hg : o.guard = none) (f : FuncId) (args : Array Operand) (ts : Array TypeId)
    (hop : o.op = Op.call { callee := Callee.value (.func f), args := args, argTypes := ts }) (vs : Array Value) (hvs : args.map a.eval = vs) (he : ∀ args w, (callFunc f args).run P w = .ok (.enter f args) w)
    {R : Ending → World → Prop} (hc : Calls P f vs w R) (hR : ∀ e w', R e w' → ∃ v, e = .returned v) (hK : ∀ v w', R (.returned v) w' → K (a.put o.dst v) w') :
    if Region.wanted o (yielded ops a.tmps) = true then Oper.wp P o a w K Q else E := by
  have hw : Region.wanted o (yielded ops a.tmps) = true := by simp [Region.wanted, hg]
  rw [if_pos hw]
  unfold Oper.wp
  subst hvs
  have e : a.eval (Operand.func f) = .func (.func f) #[] #[] := rfl
  simp [execOp, hop, resolve, invoke, e, Deferred.ofValue, he, Oper.upon]
  refine hc.mono fun x w' hr => ?_
  obtain ⟨v, rfl⟩ := hR x w' hr
  exact hK v w' hr
theorem own_base' {w : World} {b b' : Nat} {e : TypeId} {sz : Nat} {v : Value} {n : Nat} {xs : List Value} (h : w.ownsRow b e sz v n xs) (hb : b' ≤ b) : w.ownsRow b' e sz v n xs := by
  obtain ⟨h1, h2 | ⟨g, cap, cur, h3, h4, h5⟩⟩ := h
  · exact ⟨h1, .inl h2⟩
  · exact ⟨h1, .inr ⟨g, cap, cur, h3, Nat.le_trans hb h4, h5⟩⟩
/-- A kid that a call has built. -/
structure Ke where
  t : T
  a : Option Addr
  cap : Nat
def keCells (e : Ke) : List Value := [.int .i64 e.t.kind, .int .i64 e.t.num, .slice e.a e.t.kids.length e.cap]
def rowCells (ks : List Ke) : List Value := ks.flatMap keCells
theorem rowCells_length : ∀ S : List Ke, (rowCells S).length = S.length * 3
  | [] => rfl
  | e :: r => by
    have := rowCells_length r
    simp only [rowCells, List.flatMap_cons, List.length_append, List.length_cons, keCells, List.length_nil] at this ⊢
    omega
theorem rowCells_snoc (S : List Ke) (e : Ke) : rowCells (S ++ [e]) = rowCells S ++ keCells e := by simp [rowCells]
theorem rowCells_at : ∀ (S : List Ke) (i : Nat) (h : i < S.length) (j : Nat), j < 3 → (rowCells S)[i * 3 + j]? = (keCells S[i])[j]?
  | [], i, h, _, _ => by simp at h
  | t :: r, 0, h, j, hj => by
    have e : rowCells (t :: r) = keCells t ++ rowCells r := by simp [rowCells]
    rw [e, Nat.zero_mul, Nat.zero_add, List.getElem?_append_left (by simp [keCells]; omega)]; rfl
  | t :: r, i + 1, h, j, hj => by
    have e : rowCells (t :: r) = keCells t ++ rowCells r := by simp [rowCells]
    rw [e, List.getElem?_append_right (by simp [keCells]; omega)]
    have ih := rowCells_at r i (by simpa using h) j hj
    rw [show (i + 1) * 3 + j - (keCells t).length = i * 3 + j from by simp [keCells]; omega, ih]; rfl
/-- The blocks from B on, but the row's own. -/
def Others (B : Nat) (w : World) (v : Value) : Nat → Prop := fun b => B ≤ b ∧ b < w.heap.size ∧ v.ownBlock ≠ some b
/-- A row of kids of the call's own. -/
structure RowK (B : Nat) (w : World) (v : Value) (ks : List Ke) : Prop where
  own : w.ownsRow B 26 3 v ks.length (rowCells ks)
  each : ∀ e ∈ ks, TyAt (Others B w v) w e.t e.a e.cap
theorem ty_same {G G' : Nat → Prop} {w w' : World} (hs : ∀ k, G k → w'.heap[k]? = w.heap[k]?) (hG : ∀ k, G k → G' k) {t : T} {a : Option Addr} {cap : Nat} (h : TyAt G w t a cap) : TyAt G' w' t a cap :=
  ⟨h.1, h.2.1, h.2.2.1, h.2.2.2.1, KidsAt.mono (fun b o hb => World.cell?_of_block (a := ⟨b, o, none⟩) (hs b hb)) hG _ _ h.2.2.2.2⟩
theorem RowK.nil (B : Nat) (w : World) : RowK B w (.slice none 0 0) [] := ⟨World.ownsRow_nil _ _ _ _, fun _ h => by cases h⟩
/-- What lies as it lay, and a row of the call's own. -/
theorem RowK.keep {B : Nat} {w w' : World} {v : Value} {ks : List Ke} (h : RowK B w v ks) (hs : ∀ k, B ≤ k → k < w.heap.size → w'.heap[k]? = w.heap[k]?) (hz : w.heap.size ≤ w'.heap.size) : RowK B w' v ks :=
  ⟨own_same h.own fun g hg => hs g (h.own.lt g hg).1 (h.own.lt g hg).2, fun e he => ty_same (fun k hk => hs k hk.1 hk.2.1) (fun _ hk => ⟨hk.1, Nat.lt_of_lt_of_le hk.2.1 hz, hk.2.2⟩) (h.each e he)⟩
theorem RowK.base {B B' : Nat} {w : World} {v : Value} {ks : List Ke} (h : RowK B w v ks) (hB : B' ≤ B) : RowK B' w v ks :=
  ⟨own_base' h.own hB, fun e he => ty_same (fun _ _ => rfl) (fun _ hk => ⟨Nat.le_trans hB hk.1, hk.2.1, hk.2.2⟩) (h.each e he)⟩
/-- A kid more: behind append. -/
theorem RowK.push {B n : Nat} {w w1 w2 : World} {o : Obj} {g2 cap2 : Nat} {v : Value} {ks : List Ke} {e : Ke} (h : RowK B w v ks) (hn : ks.length = n) (hb : ∀ k, B ≤ k → k < w.heap.size → w1.heap[k]? = w.heap[k]?) (hz : w.heap.size ≤ w1.heap.size) (hB : B ≤ w.heap.size)
    (he : TyAt (fun b => w.heap.size ≤ b ∧ b < w1.heap.size) w1 e.t e.a e.cap) (hown : w2.ownsRow B 26 3 (.slice (some ⟨g2, 0, none⟩) (n + 1) cap2) (n + 1) (rowCells ks ++ keCells e)) (hg : (w1.alloc o).grownBy w2 v.ownBlock) (hl : v.ownBlock = some g2 ∨ g2 = w1.heap.size + 1) :
    RowK B w2 (.slice (some ⟨g2, 0, none⟩) (n + 1) cap2) (ks ++ [e]) := by
  subst hn
  have hsz : w1.heap.size < w2.heap.size := by have := hg.size; rw [World.size_alloc] at this; omega
  have kp : ∀ k, k < w1.heap.size → v.ownBlock ≠ some k → w2.heap[k]? = w1.heap[k]? := fun k hk hn => (hg.block k (by rw [World.size_alloc]; omega) (fun e => hn e.symm)).trans (Below.heap_alloc _ _ _ hk)
  have vlt : ∀ g, v.ownBlock = some g → g < w.heap.size := fun g hg => (h.own.lt g hg).2
  refine ⟨by rw [rowCells_snoc, List.length_append]; exact hown, fun e' he' => ?_⟩
  rcases List.mem_append.1 he' with he' | he'
  · refine ty_same (fun k hk => (kp k (by have := hk.2.1; omega) hk.2.2).trans (hb k hk.1 hk.2.1)) (fun k hk => ⟨hk.1, by have := hk.2.1; omega, fun x => ?_⟩) (h.each e' he')
    injection x with x
    rcases hl with y | y
    · exact hk.2.2 (by rw [y, ← x])
    · have := hk.2.1; dsimp only at x; omega
  · obtain rfl := List.mem_singleton.1 he'
    refine ty_same (fun k hk => kp k hk.2 (fun x => by have := vlt k x; have := hk.1; omega)) (fun k hk => ⟨by have := hk.1; omega, by have := hk.2; omega, fun x => ?_⟩) he
    injection x with x
    dsimp only at x
    rcases hl with y | y
    · have := vlt g2 y; have := hk.1; omega
    · have := hk.2; omega
theorem RowK.kids {B : Nat} {w : World} {a : Option Addr} {n cap : Nat} {ks : List Ke} (h : RowK B w (.slice a n cap) ks) : n = ks.length ∧ SlAt (fun b => B ≤ b ∧ b < w.heap.size) w (ks.map Ke.t) a cap := by
  obtain ⟨a', cap', e⟩ := own_shapeT h.own
  injection e with e1 e2 e3
  refine ⟨e2, ?_⟩
  rcases h.own.2 with ⟨h1, h2⟩ | ⟨g, cp, cur, h1, h2, h3, h4, h5, _⟩
  · have hk : ks = [] := List.eq_nil_of_length_eq_zero h2
    injection h1 with q1 q2 q3
    subst q1 q3
    rw [hk]; exact ⟨by simp, by unfold maxLen; omega, by simp [KidsAt]⟩
  · injection h1 with q1 q2 q3
    subst q1
    subst q3
    refine ⟨by rw [List.length_map]; exact h4, h5, KidsAt.of_nodes ⟨h2, (Array.getElem?_eq_some_iff.1 h3).1⟩ _ 0 (fun i hi => ?_)⟩
    have hi' : i < ks.length := by simpa using hi
    have hc := h.own.cells (g := g) rfl
    have k : ∀ j, j < 3 → ∀ u, (keCells ks[i])[j]? = some u → w.cell? ⟨g, 0 + i * 3 + j, none⟩ = some u := fun j hj u hu => by
      have := hc (i * 3 + j) u (by rw [rowCells_at ks i hi' j hj]; exact hu)
      rw [add_flat] at this
      rw [show 0 + i * 3 + j = 0 + (i * 3 + j) from by omega]; exact this
    have ht := ty_same (fun _ _ => rfl) (fun k hk => (⟨hk.1, hk.2.1⟩ : B ≤ k ∧ k < w.heap.size)) (h.each ks[i] (List.getElem_mem hi'))
    have e0 : (ks.map Ke.t)[i] = ks[i].t := by simp
    rw [e0]
    exact NodeAt.mk' ht (k 0 (by omega) _ rfl) (k 1 (by omega) _ rfl) (k 2 (by omega) _ rfl)
/-- What a call that builds a type hands back. -/
def TyPost (t : T) (w : World) (e : Ending) (w' : World) : Prop := ∃ a' cap' ks, e = .returned (tv t a' cap') ∧ ks.map Ke.t = t.kids ∧ RowK w.heap.size w' (.slice a' t.kids.length cap') ks ∧ I64 t.kind ∧ I64 t.num ∧ Below w.heap.size w w'
theorem TyPost.ty {t : T} {w w' : World} {a' : Option Addr} {cap' : Nat} {ks : List Ke} (h1 : ks.map Ke.t = t.kids) (h2 : RowK w.heap.size w' (.slice a' t.kids.length cap') ks) (h3 : I64 t.kind) (h4 : I64 t.num) : TyAt (fun b => w.heap.size ≤ b ∧ b < w'.heap.size) w' t a' cap' :=
  ⟨h3, h4, by rw [← h1]; exact h2.kids.2⟩
theorem set2 {w : World} {b : Nat} {x y v v' : Value} {s : TypeId} (h : w.heap[b]? = some (.cells #[x, y, v] s)) : (w.setCell ⟨b, 2, none⟩ v').heap[b]? = some (.cells #[x, y, v'] s) := by
  obtain ⟨hlt, hk⟩ := Array.getElem?_eq_some_iff.1 h
  show (w.heap.modify b _)[b]? = _
  rw [Array.getElem?_eq_getElem (by rw [Array.size_modify]; exact hlt), Array.getElem_modify_self, hk]
  rfl
theorem size_setCell (w : World) (a : Addr) (v : Value) : (w.setCell a v).heap.size = w.heap.size := by simp [World.setCell]
theorem three_one (k n : Int) (a : Option Addr) (m c : Nat) : ∀ u ∈ [Value.int .i64 k, .int .i64 n, .slice a m c], u.oneCell' = true := by
  intro u hu
  simp only [List.mem_cons, List.not_mem_nil, or_false] at hu
  rcases hu with rfl | rfl | rfl <;> rfl
theorem b40 {r : Nat} (h : r ≤ 10000) : (r + 1) * 40 ≤ 140737488355328 ∧ r + 1 ≤ maxLen := by unfold maxLen; omega
theorem own_len {w : World} {B n m sz : Nat} {e : TypeId} {v : Value} {xs : List Value} (h : w.ownsRow B e sz v n xs) (hn : n = m) : w.ownsRow B e sz v m xs := hn ▸ h
end Go.Proofs.Yteolbbgnkbcfmaa
namespace Go.Proofs.Yteolbbgnkbcfmaa
open Go Go.RowKit
open Tp (T)

/-- A kid that has come back. -/
def KidPost (x : T) (wr : World) (e : Ending) (w' : World) : Prop := ∃ a2 c2, e = .returned (tv x a2 c2) ∧ TyAt (fun b => wr.heap.size ≤ b ∧ b < w'.heap.size) w' x a2 c2 ∧ Below wr.heap.size wr w'
theorem kidPost_ret {x : T} {wr : World} : ∀ e w', KidPost x wr e w' → ∃ v, e = .returned v := fun _ _ ⟨_, _, h, _⟩ => ⟨_, h⟩
/-- A box below the row's blocks lies as it lay. -/
theorem far_own {w w6 w7 : World} {o : Obj} {B n sz b : Nat} {e : TypeId} {v : Value} {xs : List Value} {bx : Obj} (hg : (w6.alloc o).grownBy w7 v.ownBlock) (h6 : Below w.heap.size w w6) (hb : w.heap[b]? = some bx) (hown : w.ownsRow B e sz v n xs) (hlt : b < B) : w7.heap[b]? = some bx := by
  have h1 := (Array.getElem?_eq_some_iff.1 hb).1
  have h2 := h6.size
  exact (hg.block b (by rw [World.size_alloc]; omega) (fun e => by have := (hown.lt _ e.symm).1; omega)).trans ((Below.heap_alloc _ _ _ (by omega)).trans ((h6.block b h1).trans hb))

end Go.Proofs.Yteolbbgnkbcfmaa
namespace Go.Proofs.Yteolbbgnkbcfmaa
open Go Go.RowKit
open Tp (T)

theorem kid_in {n : Nat} {w wr : World} {t : T} {a : Option Addr} {cap : Nat} (h : TyAt (LT n) w t a cap) (hb : Below n w wr) {k : Nat} (hk : k < t.kids.length) :
    ∃ b o xa xcap, a = some ⟨b, o, none⟩ ∧ b < n ∧ TyAt (LT n) wr t.kids[k] xa xcap ∧ wr.cell? ⟨b, o + k * 3, none⟩ = some (.int .i64 t.kids[k].kind) ∧ wr.cell? ⟨b, o + k * 3 + 1, none⟩ = some (.int .i64 t.kids[k].num) ∧
      wr.cell? ⟨b, o + k * 3 + 2, none⟩ = some (.slice xa t.kids[k].kids.length xcap) := by
  have h2 := h.below hb (fun _ h => h) (fun b h => h)
  obtain ⟨b, o, rfl, hbn, hN⟩ := h2.2.2.2.2.first (by omega)
  obtain ⟨xa, xcap, q1, q2, q3, q4⟩ := (hN k hk).ty
  exact ⟨b, o, xa, xcap, rfl, hbn, q1, q2, q3, q4⟩
theorem varss_append : ∀ (l m : List T) (acc : List Int), Tp.varss (l ++ m) acc = Tp.varss m (Tp.varss l acc)
  | [], _, _ => rfl
  | t :: r, m, acc => by simp only [List.cons_append, Tp.varss, varss_append r m]
theorem varss_take (l : List T) (k : Nat) (h : k < l.length) (acc : List Int) : Tp.varss (l.take (k + 1)) acc = Tp.vars l[k] (Tp.varss (l.take k) acc) := by
  rw [List.take_succ_eq_append_getElem h, varss_append]; rfl
theorem vars_kids (t : T) (acc : List Int) : Tp.vars t acc = Tp.varss t.kids (Tp.addVar t.kind t.num acc) := by cases t; rfl
mutual
theorem vars_length : ∀ (t : T) (acc : List Int), (Tp.vars t acc).length ≤ acc.length + Tp.size t
  | .mk k n l, acc => by
    have h := varss_length l (Tp.addVar k n acc)
    have h2 : (Tp.addVar k n acc).length ≤ acc.length + 1 := by unfold Tp.addVar; split <;> simp
    simp only [Tp.vars, Tp.size]; omega
theorem varss_length : ∀ (l : List T) (acc : List Int), (Tp.varss l acc).length ≤ acc.length + Tp.sizes l
  | [], acc => by simp [Tp.varss, Tp.sizes]
  | t :: r, acc => by
    have h1 := vars_length t acc
    have h2 := varss_length r (Tp.vars t acc)
    simp only [Tp.varss, Tp.sizes]; omega
end
/-- What the page's vars hands back: the row, grown. -/
def VPost (B : Nat) (L : List Int) (v : Value) (w : World) (e : Ending) (w' : World) : Prop :=
  ∃ v', e = .returned v' ∧ w'.ownsRow B 3 1 v' L.length (L.map (Value.int .i64)) ∧ (w.heap.size ≤ w'.heap.size ∧ w'.os = w.os ∧ w'.tape = w.tape ∧ w'.output = w.output ∧ ∀ k, k < w.heap.size → v.ownBlock ≠ some k → w'.heap[k]? = w.heap[k]?) ∧ ∀ g, v'.ownBlock = some g → v.ownBlock = some g ∨ w.heap.size ≤ g
theorem info_int' : (Try.prog.info? 3).map (fun i => (i.zero, i.size, i.bytes)) = some (some (.int .i64 0), 1, 8) := by kernel_rfl
theorem b8' {n : Nat} (h : n ≤ 20000) : n + 1 ≤ maxLen ∧ (n + 1) * 8 ≤ 140737488355328 ∧ n ≤ 1000000 := by unfold maxLen; omega
/-- The page's loop over the kids: what has turned since. -/
structure Kept (B : Nat) (v0 : Value) (w0 wr : World) (v : Value) (acc : List Int) : Prop where
  own : wr.ownsRow B 3 1 v acc.length (acc.map (Value.int .i64))
  size : w0.heap.size ≤ wr.heap.size
  os : wr.os = w0.os
  tape : wr.tape = w0.tape
  output : wr.output = w0.output
  block : ∀ k, k < w0.heap.size → v0.ownBlock ≠ some k → wr.heap[k]? = w0.heap[k]?
  lies : ∀ g, v.ownBlock = some g → v0.ownBlock = some g ∨ w0.heap.size ≤ g
theorem Kept.refl {B : Nat} {v : Value} {w : World} {acc : List Int} (h : w.ownsRow B 3 1 v acc.length (acc.map (Value.int .i64))) : Kept B v w w v acc := ⟨h, Nat.le_refl _, rfl, rfl, rfl, fun _ _ _ => rfl, fun _ h => .inl h⟩
theorem Kept.trans {B : Nat} {v0 v v' : Value} {w0 w w' : World} {acc acc' : List Int} (h : Kept B v0 w0 w v acc) (k : Kept B v w w' v' acc') : Kept B v0 w0 w' v' acc' :=
  ⟨k.own, Nat.le_trans h.size k.size, k.os.trans h.os, k.tape.trans h.tape, k.output.trans h.output, fun i hi hn => (k.block i (Nat.lt_of_lt_of_le hi h.size) (fun e => (h.lies i e).elim hn (fun x => absurd hi (Nat.not_lt.2 x)))).trans (h.block i hi hn),
    fun g hg => by
      rcases k.lies g hg with x | x
      · exact h.lies g x
      · exact .inr (Nat.le_trans h.size x)⟩
theorem Kept.below {B : Nat} {v0 v : Value} {w0 w : World} {acc acc0 : List Int} (h : Kept B v0 w0 w v acc) (h0 : w0.ownsRow B 3 1 v0 acc0.length (acc0.map (Value.int .i64))) (hB : B ≤ w0.heap.size) : Below B w0 w :=
  ⟨h.os, h.tape, h.output, h.size, fun k hk => h.block k (Nat.lt_of_lt_of_le hk hB) (fun e => by have := (h0.lt k e).1; omega)⟩
theorem Kept.post {B : Nat} {v0 v : Value} {w0 w : World} {acc : List Int} (h : Kept B v0 w0 w v acc) : VPost B acc v0 w0 (.returned v) w := ⟨v, rfl, h.own, ⟨h.size, h.os, h.tape, h.output, h.block⟩, h.lies⟩
theorem VPost.kept {B : Nat} {v0 : Value} {w0 w : World} {acc : List Int} {e : Ending} (h : VPost B acc v0 w0 e w) : ∃ v, e = .returned v ∧ Kept B v0 w0 w v acc := by
  obtain ⟨v, h1, h2, ⟨a, b, c, d, f⟩, g⟩ := h
  exact ⟨v, h1, h2, a, b, c, d, f, g⟩
/-- A box of another type is none of the row's blocks. -/
theorem box_far {B n : Nat} {w : World} {v : Value} {xs : List Value} {b : Nat} {A : Array Value} {s : TypeId} (h : w.ownsRow B 3 1 v n xs) (hb : w.heap[b]? = some (.cells A s)) (hs : s ≠ 3) : v.ownBlock ≠ some b := fun e => by
  rcases h.2 with ⟨h1, _⟩ | ⟨g, cap, cur, h1, _, h3, _⟩
  · rw [h1] at e; cases e
  · rw [h1] at e; injection e with e; dsimp only at e; rw [e, hb] at h3; injection h3 with h3; injection h3 with h4 h5; exact hs h5
theorem Kept.alloc {B : Nat} {v : Value} {w : World} {acc : List Int} (h : w.ownsRow B 3 1 v acc.length (acc.map (Value.int .i64))) (o : Obj) : Kept B v w (w.alloc o) v acc :=
  ⟨h.alloc o, by simp, rfl, rfl, rfl, fun k hk _ => Below.heap_alloc _ _ _ hk, fun _ h => .inl h⟩
theorem Kept.push {B : Nat} {v : Value} {w w' : World} {o : Obj} {g cap : Nat} {acc : List Int} {x : Int} (hown : w'.ownsRow B 3 1 (.slice (some ⟨g, 0, none⟩) (acc.length + 1) cap) (acc.length + 1) (acc.map (Value.int .i64) ++ [.int .i64 x])) (hg : (w.alloc o).grownBy w' v.ownBlock) (hl : v.ownBlock = some g ∨ g = (w.alloc o).heap.size) :
    Kept B v w w' (.slice (some ⟨g, 0, none⟩) (acc.length + 1) cap) (acc ++ [x]) := by
  have hz := hg.size
  rw [World.size_alloc] at hz
  refine ⟨by rw [List.length_append, List.map_append]; exact hown, by omega, hg.os, hg.tape, hg.output, fun k hk hn => (hg.block k (by rw [World.size_alloc]; omega) (fun e => hn e.symm)).trans (Below.heap_alloc _ _ _ hk), fun y hy => ?_⟩
  injection hy with hy
  dsimp only at hy
  rcases hl with h | h
  · exact .inl (by rw [h, hy])
  · rw [World.size_alloc] at h; exact .inr (by omega)

theorem news1 (w : World) (A : Array Value) (s : TypeId) (x : Int) (u : TypeId) : ∀ j v, [Value.int .i64 x][j]? = some v → ((w.alloc (.cells A s)).alloc (.cells #[.int .i64 x] u)).cell? ((⟨w.heap.size + 1, 0, none⟩ : Addr).add j) = some v := fun j v hv =>
  World.news_of_block (box2 w A #[.int .i64 x] s u) j v hv

set_option maxRecDepth 100000 in
set_option maxHeartbeats 4000000 in
theorem rvars_any (B : Nat) : ∀ (n : Nat) (t : T) (a : Option Addr) (cap : Nat) (va : Option Addr) (vcap : Nat) (acc : List Int) (w : World), Tp.size t ≤ n → acc.length + Tp.size t ≤ 10000 → B ≤ w.heap.size → TyAt (LT B) w t a cap →
    w.ownsRow B 3 1 (.slice va acc.length vcap) acc.length (acc.map (Value.int .i64)) →
    Calls Try.prog 120 #[tv t a cap, .slice va acc.length vcap] w (VPost B (Tp.vars t acc) (.slice va acc.length vcap) w) := by
  intro n
  induction n with
  | zero => intro t a cap va vcap acc w h; have := Tp.size_pos t; omega
  | succ n ih =>
    intro t a cap va vcap acc w hn hs hB hty hown
    have hm10 : (t.kids.length : Int) ≤ 10000 := by have := Tp.length_le_sizes t.kids; have := size_kids t; omega
    have hac : acc.length ≤ 10000 := by omega
    have HN := Lib.hid hn; have HS := Lib.hid hs; have HTY := Lib.hid hty; have IH := Lib.hid ih; have HOWN := Lib.hid hown; have HBW := Lib.hid hB; clear hn hs hty ih hown hB
    obtain ⟨m, hm⟩ : ∃ m, t.kids.length = m := ⟨_, rfl⟩
    obtain ⟨kk, hkk⟩ : ∃ kk, t.kind = kk := ⟨_, rfl⟩
    obtain ⟨nn, hnn⟩ : ∃ kk, t.num = kk := ⟨_, rfl⟩
    obtain ⟨m0, hm0⟩ : ∃ m0, acc.length = m0 := ⟨_, rfl⟩
    have hvk : Tp.vars t acc = Tp.varss t.kids (Tp.addVar kk nn acc) := by rw [vars_kids, hkk, hnn]
    have hbox : (w.alloc (.cells #[.int .i64 t.kind, .int .i64 t.num, .slice a t.kids.length cap] 26)).heap[w.heap.size]? = some (.cells #[.int .i64 t.kind, .int .i64 t.num, .slice a t.kids.length cap] 26) := World.alloc_heap_new w _
    have hin : ∀ w', IntRow w' va acc → Calls Try.prog 76 #[.slice va m0 vcap, .int .i64 nn] w' fun e w'' => e = .returned (.bool (decide (nn ∈ acc))) ∧ w' = w'' := fun w' h => by rw [← hm0]; exact in_any acc va vcap nn w' (by omega) h
    have hrow0 : IntRow (w.alloc (.cells #[.int .i64 t.kind, .int .i64 t.num, .slice a t.kids.length cap] 26)) va acc := (IntRow.of_own (HOWN.out.alloc _)).2
    unfold tv
    rw [hm] at hm10 hbox hrow0 ⊢
    rw [hkk, hnn] at hbox hrow0 ⊢
    rw [hm0] at hac ⊢
    have HM := Lib.hid hm; have HKK := Lib.hid hkk; have HNN := Lib.hid hnn; have HM0 := Lib.hid hm0; have HVK := Lib.hid hvk; have HIN := Lib.hid hin; have HBOX := Lib.hid hbox; have HR0 := Lib.hid hrow0; clear hm hkk hnn hm0 hvk hin hbox hrow0
    have hown0 : w.ownsRow B 3 1 (.slice va m0 vcap) acc.length (acc.map (Value.int .i64)) := by have := HOWN.out; rw [HM0.out] at this; rw [HM0.out]; exact this
    have HOWN0 := Lib.hid hown0; clear hown0
    by_cases hk6 : kk = 6
    · subst hk6
      by_cases hna : nn ∈ acc
      · have hadd : Tp.addVar 6 nn acc = acc := by unfold Tp.addVar; rw [if_neg (fun h => h.2 hna)]
        have hd : decide (nn ∈ acc) = true := decide_eq_true hna
        rw [hd] at HIN
        have HADD := Lib.hid hadd; have HNA := Lib.hid hna; have HAL := Lib.hid (Nat.le_succ acc.length); clear hadd hna hd
        go_enter Try.func120, Try.ntmps120
        go_wp2_with (go_at_call 76; refine (HIN.out _ HR0.out).mono ?_; rintro e w' ⟨rfl, rfl⟩)
        have hk0 : Kept B (.slice va m0 vcap) w (w.alloc (.cells #[.int .i64 6, .int .i64 nn, .slice a m cap] 26)) (.slice va m0 vcap) acc := Kept.alloc HOWN0.out _
        have HBX := HBOX
        have HK0 := Lib.hid hk0; have HV := Lib.hid (show Tp.vars t acc = Tp.varss t.kids acc from by rw [HVK.out, HADD.out]); clear hk0
        go_loopg [1, 5] m (fun gk v i wr => ∃ k : Nat, k ≤ m ∧ i = .int .i64 k ∧ Kept B (.slice va m0 vcap) w wr v (Tp.varss (t.kids.take k) acc) ∧ wr.heap[w.heap.size]? = some (.cells #[.int .i64 6, .int .i64 nn, .slice a m cap] 26) ∧ gk = m - k)
        case atStart => exact ⟨0, Nat.zero_le _, rfl, HK0.out, HBX.out, rfl⟩
        case round =>
          obtain ⟨k, hk, rfl, hkp, hbx, rfl⟩ := hrel
          obtain ⟨wa, wcap, rfl⟩ := own_shapeT hkp.own
          have c2 : wr.cell? ⟨w.heap.size, 2, none⟩ = some (.slice a m cap) := cell_box hbx rfl rfl
          have hbw : Below B w wr := hkp.below HOWN0.out HBW.out
          have HKP := Lib.hid hkp; have HBX2 := Lib.hid hbx; have HBB := Lib.hid hbw; clear hkp hbx hbw
          by_cases hlt : k < m
          · have hkl : k < t.kids.length := by rw [HM.out]; exact hlt
            obtain ⟨b, o, xa, xcap, rfl, hbn, hx, x0, x1, x2⟩ := kid_in HTY.out HBB.out hkl
            have hst := varss_take t.kids k hkl acc
            have hsk := size_kid t.kids k hkl
            have hst2 := sizes_take t.kids k hkl
            have hst3 := sizes_take_le t.kids (k + 1)
            have hvl := varss_length (t.kids.take k) acc
            have hal := HAL.out
            have hss := size_kids t
            have hcall := IH.out t.kids[k] xa xcap wa wcap (Tp.varss (t.kids.take k) acc) wr (by have := HN.out; omega) (by have := HS.out; have := HM0.out; omega) (Nat.le_trans HBW.out HKP.out.size) hx HKP.out.own
            unfold tv at hcall
            obtain ⟨x, hx'⟩ : ∃ x, t.kids[k] = x := ⟨_, rfl⟩
            rw [hx'] at x0 x1 x2 hcall hst
            obtain ⟨L, hL⟩ : ∃ L, Tp.varss (t.kids.take k) acc = L := ⟨_, rfl⟩
            rw [hL] at hcall hst ⊢
            have HKP2 := Lib.hid (hL ▸ HKP.out)
            obtain ⟨mL, hmL⟩ : ∃ z, L.length = z := ⟨_, rfl⟩
            rw [hmL] at hcall ⊢
            have HC := Lib.hid hcall; have HST := Lib.hid hst; have HML := Lib.hid hmL
            clear hcall hst hx hx' hsk hst2 hst3 hvl hal hss hL hmL
            go_wp2_with (go_at_call 120; refine HC.out.mono ?_; rintro e w' hp; obtain ⟨v', rfl, hkp'⟩ := VPost.kept hp; have HKP' := Lib.hid hkp'; clear hp hkp')
            go_roundg (m - (k + 1))
            case measure => omega
            case rel => exact ⟨k + 1, by omega, by go_num, by rw [HST.out]; exact HKP2.out.trans (by rw [HML.out]; exact HKP'.out), (HKP'.out.block _ (Array.getElem?_eq_some_iff.1 HBX2.out).1 (by rw [← HML.out]; exact box_far HKP2.out.own HBX2.out (by decide))).trans HBX2.out, rfl⟩
          · obtain rfl : k = m := by omega
            have hp := HKP.out.post
            rw [List.take_of_length_le (by rw [HM.out]; exact Nat.le_refl _), ← HV.out] at hp ⊢
            have HP := Lib.hid hp; clear hp
            go_wp2_with fail
            go_ret
            exact HP.out
      · have hadd : Tp.addVar 6 nn acc = acc ++ [nn] := by unfold Tp.addVar; rw [if_pos ⟨rfl, hna⟩]
        have hd : decide (nn ∈ acc) = false := decide_eq_false hna
        rw [hd] at HIN
        have HADD := Lib.hid hadd; have HNA := Lib.hid hna; have HAL := Lib.hid (show (acc ++ [nn]).length ≤ acc.length + 1 from by simp); clear hadd hna hd
        have HOWNB := Lib.hid (show ((w.alloc (.cells #[.int .i64 6, .int .i64 nn, .slice a m cap] 26)).alloc (.cells #[.int .i64 nn] 3)).ownsRow B 3 1 (.slice va m0 vcap) m0 (acc.map (Value.int .i64)) from by have := (HOWN.out.alloc (.cells #[.int .i64 6, .int .i64 nn, .slice a m cap] 26)).alloc (.cells #[.int .i64 nn] 3); rw [HM0.out] at this; exact this)
        obtain ⟨i0, hi, hz0, hz1, hz2⟩ := info_parts info_int'
        have HB8 := Lib.hid (b8' (n := m0) (by omega))
        go_enter Try.func120, Try.ntmps120
        go_wp2_with (first | (go_at_call 76; refine (HIN.out _ HR0.out).mono ?_; rintro e w' ⟨rfl, rfl⟩) | (at_builtin; refine wpList_append_lies _ rfl (.tmp 16) (.tmp 19) 27 rfl B 3 i0 (.int .i64 0) 1 8 Try.underlying27 hi hz0 hz1 hz2 rfl (by decide) (.slice va m0 vcap) m0 (acc.map (Value.int .i64)) rfl HOWNB.out ⟨w.heap.size + 1, 0, none⟩ 1 1 [.int .i64 nn] rfl rfl (news1 w _ _ _ _) (by intro u hu; obtain rfl := List.mem_singleton.1 hu; rfl) (by decide) HB8.out.1 HB8.out.2.1 (Nat.le_trans HBW.out (by simp <;> omega)) _ rfl ?_; intro g2 cap2 w2 own2 gr2 ly2 _))
        have hk0 : Kept B (.slice va m0 vcap) w w2 (.slice (some ⟨g2, 0, none⟩) (m0 + 1) cap2) (acc ++ [nn]) := by
          have h1 : Kept B (.slice va m0 vcap) w (w.alloc (.cells #[.int .i64 6, .int .i64 nn, .slice a m cap] 26)) (.slice va m0 vcap) acc := Kept.alloc HOWN0.out _
          refine h1.trans ?_
          have h2 := Kept.push (acc := acc) (x := nn) (B := B) (w := w.alloc (.cells #[.int .i64 6, .int .i64 nn, .slice a m cap] 26)) (w' := w2) (v := .slice va m0 vcap) (g := g2) (cap := cap2) (by rw [HM0.out]; exact own2) gr2 ly2
          rw [HM0.out] at h2; exact h2
        have HBX := Lib.hid ((gr2.block w.heap.size (by simp <;> omega) (fun e => box_far (HOWN0.out.alloc _) HBOX.out (by decide) e.symm)).trans ((Below.heap_alloc _ _ _ (by simp)).trans HBOX.out))
        have G2 := Lib.hid gr2; have L2 := Lib.hid ly2; have O2 := Lib.hid own2
        clear gr2 ly2 own2 hi hz0 hz1 hz2
        have HK0 := Lib.hid hk0; have HV := Lib.hid (show Tp.vars t acc = Tp.varss t.kids (acc ++ [nn]) from by rw [HVK.out, HADD.out]); clear hk0
        go_loopg [1, 5] m (fun gk v i wr => ∃ k : Nat, k ≤ m ∧ i = .int .i64 k ∧ Kept B (.slice va m0 vcap) w wr v (Tp.varss (t.kids.take k) (acc ++ [nn])) ∧ wr.heap[w.heap.size]? = some (.cells #[.int .i64 6, .int .i64 nn, .slice a m cap] 26) ∧ gk = m - k)
        case atStart => exact ⟨0, Nat.zero_le _, rfl, HK0.out, HBX.out, rfl⟩
        case round =>
          obtain ⟨k, hk, rfl, hkp, hbx, rfl⟩ := hrel
          obtain ⟨wa, wcap, rfl⟩ := own_shapeT hkp.own
          have c2 : wr.cell? ⟨w.heap.size, 2, none⟩ = some (.slice a m cap) := cell_box hbx rfl rfl
          have hbw : Below B w wr := hkp.below HOWN0.out HBW.out
          have HKP := Lib.hid hkp; have HBX2 := Lib.hid hbx; have HBB := Lib.hid hbw; clear hkp hbx hbw
          by_cases hlt : k < m
          · have hkl : k < t.kids.length := by rw [HM.out]; exact hlt
            obtain ⟨b, o, xa, xcap, rfl, hbn, hx, x0, x1, x2⟩ := kid_in HTY.out HBB.out hkl
            have hst := varss_take t.kids k hkl (acc ++ [nn])
            have hsk := size_kid t.kids k hkl
            have hst2 := sizes_take t.kids k hkl
            have hst3 := sizes_take_le t.kids (k + 1)
            have hvl := varss_length (t.kids.take k) (acc ++ [nn])
            have hal := HAL.out
            have hss := size_kids t
            have hcall := IH.out t.kids[k] xa xcap wa wcap (Tp.varss (t.kids.take k) (acc ++ [nn])) wr (by have := HN.out; omega) (by have := HS.out; have := HM0.out; omega) (Nat.le_trans HBW.out HKP.out.size) hx HKP.out.own
            unfold tv at hcall
            obtain ⟨x, hx'⟩ : ∃ x, t.kids[k] = x := ⟨_, rfl⟩
            rw [hx'] at x0 x1 x2 hcall hst
            obtain ⟨L, hL⟩ : ∃ L, Tp.varss (t.kids.take k) (acc ++ [nn]) = L := ⟨_, rfl⟩
            rw [hL] at hcall hst ⊢
            have HKP2 := Lib.hid (hL ▸ HKP.out)
            obtain ⟨mL, hmL⟩ : ∃ z, L.length = z := ⟨_, rfl⟩
            rw [hmL] at hcall ⊢
            have HC := Lib.hid hcall; have HST := Lib.hid hst; have HML := Lib.hid hmL
            clear hcall hst hx hx' hsk hst2 hst3 hvl hal hss hL hmL
            go_wp2_with (go_at_call 120; refine HC.out.mono ?_; rintro e w' hp; obtain ⟨v', rfl, hkp'⟩ := VPost.kept hp; have HKP' := Lib.hid hkp'; clear hp hkp')
            go_roundg (m - (k + 1))
            case measure => omega
            case rel => exact ⟨k + 1, by omega, by go_num, by rw [HST.out]; exact HKP2.out.trans (by rw [HML.out]; exact HKP'.out), (HKP'.out.block _ (Array.getElem?_eq_some_iff.1 HBX2.out).1 (by rw [← HML.out]; exact box_far HKP2.out.own HBX2.out (by decide))).trans HBX2.out, rfl⟩
          · obtain rfl : k = m := by omega
            have hp := HKP.out.post
            rw [List.take_of_length_le (by rw [HM.out]; exact Nat.le_refl _), ← HV.out] at hp ⊢
            have HP := Lib.hid hp; clear hp
            go_wp2_with fail
            go_ret
            exact HP.out
    · have hadd : Tp.addVar kk nn acc = acc := by unfold Tp.addVar; rw [if_neg (fun h => hk6 h.1)]
      have g6 : (kk == 6) = false := by simp [hk6]
      have HADD := Lib.hid hadd; have HK6 := Lib.hid hk6; have HAL := Lib.hid (Nat.le_succ acc.length); clear hadd hk6
      go_enter Try.func120, Try.ntmps120
      go_wp2_with fail
      have hk0 : Kept B (.slice va m0 vcap) w (w.alloc (.cells #[.int .i64 kk, .int .i64 nn, .slice a m cap] 26)) (.slice va m0 vcap) acc := Kept.alloc HOWN0.out _
      have HBX := HBOX
      have HK0 := Lib.hid hk0; have HV := Lib.hid (show Tp.vars t acc = Tp.varss t.kids acc from by rw [HVK.out, HADD.out]); clear hk0
      go_loopg [1, 5] m (fun gk v i wr => ∃ k : Nat, k ≤ m ∧ i = .int .i64 k ∧ Kept B (.slice va m0 vcap) w wr v (Tp.varss (t.kids.take k) acc) ∧ wr.heap[w.heap.size]? = some (.cells #[.int .i64 kk, .int .i64 nn, .slice a m cap] 26) ∧ gk = m - k)
      case atStart => exact ⟨0, Nat.zero_le _, rfl, HK0.out, HBX.out, rfl⟩
      case round =>
        obtain ⟨k, hk, rfl, hkp, hbx, rfl⟩ := hrel
        obtain ⟨wa, wcap, rfl⟩ := own_shapeT hkp.own
        have c2 : wr.cell? ⟨w.heap.size, 2, none⟩ = some (.slice a m cap) := cell_box hbx rfl rfl
        have hbw : Below B w wr := hkp.below HOWN0.out HBW.out
        have HKP := Lib.hid hkp; have HBX2 := Lib.hid hbx; have HBB := Lib.hid hbw; clear hkp hbx hbw
        by_cases hlt : k < m
        · have hkl : k < t.kids.length := by rw [HM.out]; exact hlt
          obtain ⟨b, o, xa, xcap, rfl, hbn, hx, x0, x1, x2⟩ := kid_in HTY.out HBB.out hkl
          have hst := varss_take t.kids k hkl acc
          have hsk := size_kid t.kids k hkl
          have hst2 := sizes_take t.kids k hkl
          have hst3 := sizes_take_le t.kids (k + 1)
          have hvl := varss_length (t.kids.take k) acc
          have hal := HAL.out
          have hss := size_kids t
          have hcall := IH.out t.kids[k] xa xcap wa wcap (Tp.varss (t.kids.take k) acc) wr (by have := HN.out; omega) (by have := HS.out; have := HM0.out; omega) (Nat.le_trans HBW.out HKP.out.size) hx HKP.out.own
          unfold tv at hcall
          obtain ⟨x, hx'⟩ : ∃ x, t.kids[k] = x := ⟨_, rfl⟩
          rw [hx'] at x0 x1 x2 hcall hst
          obtain ⟨L, hL⟩ : ∃ L, Tp.varss (t.kids.take k) acc = L := ⟨_, rfl⟩
          rw [hL] at hcall hst ⊢
          have HKP2 := Lib.hid (hL ▸ HKP.out)
          obtain ⟨mL, hmL⟩ : ∃ z, L.length = z := ⟨_, rfl⟩
          rw [hmL] at hcall ⊢
          have HC := Lib.hid hcall; have HST := Lib.hid hst; have HML := Lib.hid hmL
          clear hcall hst hx hx' hsk hst2 hst3 hvl hal hss hL hmL
          go_wp2_with (go_at_call 120; refine HC.out.mono ?_; rintro e w' hp; obtain ⟨v', rfl, hkp'⟩ := VPost.kept hp; have HKP' := Lib.hid hkp'; clear hp hkp')
          go_roundg (m - (k + 1))
          case measure => omega
          case rel => exact ⟨k + 1, by omega, by go_num, by rw [HST.out]; exact HKP2.out.trans (by rw [HML.out]; exact HKP'.out), (HKP'.out.block _ (Array.getElem?_eq_some_iff.1 HBX2.out).1 (by rw [← HML.out]; exact box_far HKP2.out.own HBX2.out (by decide))).trans HBX2.out, rfl⟩
        · obtain rfl : k = m := by omega
          have hp := HKP.out.post
          rw [List.take_of_length_le (by rw [HM.out]; exact Nat.le_refl _), ← HV.out] at hp ⊢
          have HP := Lib.hid hp; clear hp
          go_wp2_with fail
          go_ret
          exact HP.out
end Go.Proofs.Yteolbbgnkbcfmaa
namespace Go.Proofs.Yteolbbgnkbcfmaa
open Go Go.RowKit
open Tp (T)
def RowPost (L : List Int) (w : World) (e : Ending) (w' : World) : Prop := ∃ v, e = .returned v ∧ w'.ownsRow w.heap.size 3 1 v L.length (L.map (Value.int .i64)) ∧ Below w.heap.size w w'

set_option maxHeartbeats 1000000 in
theorem rvarsall_any (t : T) (a : Option Addr) (cap : Nat) (w : World) (hs : Tp.size t ≤ 10000) (hty : TyAt (LT w.heap.size) w t a cap) :
    Calls Try.prog 87 #[tv t a cap] w (RowPost (Tp.vars t []) w) := by
  have hcall := fun w' (hb : Below w.heap.size w w') => rvars_any w.heap.size (Tp.size t) t a cap none 0 [] w' (Nat.le_refl _) (by simpa using hs) hb.size (hty.below hb (fun _ h => h) (fun _ h => h)) (World.ownsRow_nil _ _ _ _)
  obtain ⟨k0, hk0⟩ : ∃ k0, t.kind = k0 := ⟨_, rfl⟩
  obtain ⟨n0, hn0⟩ : ∃ n0, t.num = n0 := ⟨_, rfl⟩
  obtain ⟨m0, hm0⟩ : ∃ m0, t.kids.length = m0 := ⟨_, rfl⟩
  unfold tv at hcall ⊢
  rw [hk0, hn0, hm0] at hcall ⊢
  have HC := Lib.hid hcall; clear hcall hk0 hn0 hm0 hty
  go_enter Try.func87, Try.ntmps87
  go_wp2_with (go_at_call 120; refine (HC.out _ ((Below.refl _ _).alloc (Nat.le_refl _) _)).mono ?_; rintro e w' hp; obtain ⟨v', rfl, hkp'⟩ := VPost.kept hp; have HKP := Lib.hid hkp'; clear hp hkp')
  go_ret
  refine ⟨v', rfl, HKP.out.own, ((Below.refl _ _).alloc (Nat.le_refl _) _).trans ⟨HKP.out.os, HKP.out.tape, HKP.out.output, HKP.out.size, fun k hk => HKP.out.block k (by rw [World.size_alloc]; omega) (fun e => by cases e)⟩⟩

set_option maxHeartbeats 1000000 in
theorem heavy_any (l : List T) (a : Option Addr) (cap : Nat) (w : World) (hl : l.length ≤ 10) (hk : KidsAt (LT w.heap.size) w l a) :
    Calls Try.prog 11 #[.slice a l.length cap] w fun e w' => e = .returned (.bool (decide (600 < Tp.sizes l))) ∧ Below w.heap.size w w' := by
  have HK := Lib.hid hk; clear hk
  obtain ⟨m, hm⟩ : ∃ m, l.length = m := ⟨_, rfl⟩
  obtain ⟨res, hres⟩ : ∃ res, decide (600 < Tp.sizes l) = res := ⟨_, rfl⟩
  rw [hm] at hl ⊢
  rw [hres]
  have HM := Lib.hid hm; have HRES := Lib.hid hres; clear hm hres
  go_enter Try.func11, Try.ntmps11
  go_wp2_with fail
  go_loopg [3, 4] m (fun gk v i wr => ∃ (k : Nat) (x : Int), k ≤ m ∧ i = .int .i64 k ∧ v = .int .i64 x ∧ ((Tp.sizes (l.take k) : Int) ≤ 600 → x = (Tp.sizes (l.take k) : Nat)) ∧ (600 < (Tp.sizes (l.take k) : Int) → 600 < x) ∧ 0 ≤ x ∧ x ≤ 600 + k ∧ Below w.heap.size w wr ∧ gk = m - k)
  case atStart => exact ⟨0, 0, Nat.zero_le _, rfl, rfl, by simp [Tp.sizes], by simp [Tp.sizes], Int.le_refl _, by omega, Below.refl _ _, rfl⟩
  case round =>
    obtain ⟨k, x, hk, rfl, rfl, q1, q2, q3, q4, hb, rfl⟩ := hrel
    have hx100 : x ≤ 100000 := by omega
    have hx0 : 0 ≤ x := by omega
    have HB := Lib.hid hb; have Q1 := Lib.hid q1; have Q2 := Lib.hid q2; have Q3 := Lib.hid q3; have Q4 := Lib.hid q4; clear hb q1 q2 q3 q4
    by_cases hlt : k < m
    · have hkl : k < l.length := by rw [HM.out]; exact hlt
      have hk2 : KidsAt (LT wr.heap.size) wr l a := HK.out.below HB.out (fun _ h => h) (fun b h => Nat.lt_of_lt_of_le h HB.out.size)
      obtain ⟨b, o, rfl, hbn, hN⟩ := hk2.first (by omega)
      obtain ⟨xa, xcap, hx, x0, x1, x2⟩ := (hN k hkl).ty
      have hst := sizes_take l k hkl
      have hcall := count_any (Tp.size l[k]) l[k] xa xcap x wr (Nat.le_refl _) hx0 (by omega) hx
      unfold tv at hcall
      obtain ⟨y, hy⟩ : ∃ x, l[k] = x := ⟨_, rfl⟩
      rw [hy] at x0 x1 x2 hcall hst
      obtain ⟨s2, hs2⟩ : ∃ s1, Tp.size y = s1 := ⟨_, rfl⟩
      rw [hs2] at hcall hst
      have HST := Lib.hid hst; have HC := Lib.hid hcall
      clear hst hcall hx hy hs2 hk2 hN hbn
      go_wp2_with (go_at_call 51; refine HC.out.mono ?_; rintro e w' ⟨z, rfl, z1, z2, z3, z4, hb'⟩; have Z1 := Lib.hid z1; have Z2 := Lib.hid z2; have Z3 := Lib.hid z3; have Z4 := Lib.hid z4; clear z1 z2 z3 z4)
      go_roundg (m - (k + 1))
      case measure => omega
      case rel =>
        have a1 := Q1.out; have a2 := Q2.out; have a3 := Q3.out; have a4 := Q4.out; have b1 := Z1.out; have b2 := Z2.out; have b3 := Z3.out; have b4 := Z4.out; have st := HST.out
        exact ⟨k + 1, z, by omega, by go_num, rfl, by rw [st]; omega, by rw [st]; omega, by omega, by omega, HB.out.trans (hb'.mono HB.out.size), rfl⟩
    · obtain rfl : k = m := by omega
      have htk : l.take k = l := List.take_of_length_le (by rw [HM.out]; exact Nat.le_refl _)
      have HTK := Lib.hid htk; clear htk
      go_wp2_with fail
      go_ret
      refine ⟨ret_boolT ?_, HB.out⟩
      have a1 := Q1.out; have a2 := Q2.out
      rw [HTK.out] at a1 a2
      rw [← HRES.out, Bool.eq_iff_iff, decide_eq_true_eq, decide_eq_true_eq]
      omega
end Go.Proofs.Yteolbbgnkbcfmaa

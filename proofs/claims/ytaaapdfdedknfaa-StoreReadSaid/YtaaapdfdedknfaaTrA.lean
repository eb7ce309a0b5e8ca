/- Walks: the page's own answers for types: how great, how deep, right, without a kind; count. -/
import Derived.Test.YtaaapdfdedknfaaTyN
import Derived.Deep.LoopGhost
import Derived.Deep.QuietTactic
import Derived.BigQuiet
import Derived.Outline
import Derived.IntWalk
namespace Go.Proofs.Ytaaapdfdedknfaa
open Go Go.RowKit
open Tp (T)

theorem sizes_take (l : List T) (k : Nat) (h : k < l.length) : Tp.sizes (l.take (k + 1)) = Tp.sizes (l.take k) + Tp.size l[k] := by
  rw [List.take_succ_eq_append_getElem h, Tp.sizes_append]; simp [Tp.sizes]
theorem sizes_take_le (l : List T) (k : Nat) : Tp.sizes (l.take k) ≤ Tp.sizes l := by
  have := Tp.sizes_append (l.take k) (l.drop k)
  rw [List.take_append_drop] at this; omega
theorem size_kid (l : List T) (k : Nat) (h : k < l.length) : Tp.size l[k] ≤ Tp.sizes l := by
  have := sizes_take l k h
  have := sizes_take_le l (k + 1)
  omega
theorem size_kids (t : T) : Tp.size t = Tp.sizes t.kids + 1 := by cases t; rfl
/-- What a loop over the kids reads. -/
theorem kid_at {n : Nat} {w wr : World} {t : T} {a : Option Addr} {cap : Nat} (h : TyAt (LT n) w t a cap) (hb : Below n w wr) (hn : n ≤ w.heap.size) {k : Nat} (hk : k < t.kids.length) :
    ∃ b o xa xcap, a = some ⟨b, o, none⟩ ∧ b < n ∧ TyAt (LT wr.heap.size) wr t.kids[k] xa xcap ∧ wr.cell? ⟨b, o + k * 3, none⟩ = some (.int .i64 t.kids[k].kind) ∧ wr.cell? ⟨b, o + k * 3 + 1, none⟩ = some (.int .i64 t.kids[k].num) ∧
      wr.cell? ⟨b, o + k * 3 + 2, none⟩ = some (.slice xa t.kids[k].kids.length xcap) := by
  have h2 := h.below hb (fun _ h => h) (fun b h => (Nat.lt_of_lt_of_le h (Nat.le_trans hn hb.size) : b < wr.heap.size)) (G' := LT wr.heap.size)
  obtain ⟨b, o, rfl, hbn, hN⟩ := h2.2.2.2.2.first (by omega)
  obtain ⟨b1, o1, e1, hbn1, _⟩ := h.2.2.2.2.first (by omega)
  injection e1 with e1; injection e1 with e1 e2 e3
  obtain ⟨xa, xcap, q1, q2, q3, q4⟩ := (hN k hk).ty
  exact ⟨b, o, xa, xcap, rfl, by rw [e1]; exact hbn1, q1, q2, q3, q4⟩

theorem depths_append : ∀ l m : List T, Tp.depths (l ++ m) = max (Tp.depths l) (Tp.depths m)
  | [], m => by simp [Tp.depths]
  | t :: r, m => by simp only [List.cons_append, Tp.depths, depths_append r m]; omega
theorem depths_take (l : List T) (k : Nat) (h : k < l.length) : Tp.depths (l.take (k + 1)) = max (Tp.depths (l.take k)) (Tp.depth l[k]) := by
  rw [List.take_succ_eq_append_getElem h, depths_append]; simp [Tp.depths]
theorem depth_kids (t : T) : Tp.depth t = Tp.depths t.kids + 1 := by cases t; rfl
theorem depths_take_le (l : List T) (k : Nat) : Tp.depths (l.take k) ≤ Tp.sizes l := Nat.le_trans (Tp.depths_le_sizes _) (sizes_take_le l k)
theorem withouts_take (x : Int) (l : List T) (k : Nat) (h : k < l.length) : Tp.withouts x (l.take (k + 1)) = (Tp.withouts x (l.take k) && Tp.without x l[k]) := by
  have ap : ∀ a b : List T, Tp.withouts x (a ++ b) = (Tp.withouts x a && Tp.withouts x b) := by
    intro a; induction a with
    | nil => intro b; simp [Tp.withouts]
    | cons t r ih => intro b; simp [Tp.withouts, ih, Bool.and_assoc]
  rw [List.take_succ_eq_append_getElem h, ap]; simp [Tp.withouts]
theorem withouts_get (x : Int) (l : List T) (k : Nat) (h : k < l.length) (hf : Tp.without x l[k] = false) : Tp.withouts x l = false := by
  have ap : ∀ a b : List T, Tp.withouts x (a ++ b) = (Tp.withouts x a && Tp.withouts x b) := by
    intro a; induction a with
    | nil => intro b; simp [Tp.withouts]
    | cons t r ih => intro b; simp [Tp.withouts, ih, Bool.and_assoc]
  have e := ap (l.take (k + 1)) (l.drop (k + 1))
  rw [List.take_append_drop, withouts_take x l k h, hf] at e
  simpa using e
theorem without_kids (x : Int) (t : T) : Tp.without x t = (!decide (t.kind = x) && Tp.withouts x t.kids) := by cases t; rfl

set_option maxHeartbeats 1000000 in
theorem rsize_any : ∀ (n : Nat) (t : T) (a : Option Addr) (cap : Nat) (w : World), Tp.size t ≤ n → Tp.size t ≤ 10000 → TyAt (LT w.heap.size) w t a cap →
    Calls Try.prog 25 #[tv t a cap] w fun e w' => e = .returned (.int .i64 (Tp.size t : Int)) ∧ Below w.heap.size w w' := by
  intro n
  induction n with
  | zero => intro t a cap w h; have := Tp.size_pos t; omega
  | succ n ih =>
    intro t a cap w hn hs hty
    have hm10 : (t.kids.length : Int) ≤ 10000 := by have := Tp.length_le_sizes t.kids; have := size_kids t; omega
    have HN := Lib.hid hn; have HS := Lib.hid hs; have HTY := Lib.hid hty; have IH := Lib.hid ih; clear hn hs hty ih
    have hlen : ∃ m, t.kids.length = m := ⟨_, rfl⟩
    obtain ⟨m, hm⟩ := hlen
    unfold tv
    rw [hm] at hm10 ⊢
    have HM := Lib.hid hm; clear hm
    go_enter Try.func25, Try.ntmps25
    go_wp2_with fail
    go_loopg [3, 4] m (fun gk v i wr => ∃ k : Nat, k ≤ m ∧ i = .int .i64 k ∧ v = .int .i64 (1 + (Tp.sizes (t.kids.take k) : Nat)) ∧ Below (w.heap.size + 1) (w.alloc (.cells #[.int .i64 t.kind, .int .i64 t.num, .slice a m cap] 26)) wr ∧ gk = m - k)
    case atStart => exact ⟨0, Nat.zero_le _, rfl, by simp [Tp.sizes], Below.refl _ _, rfl⟩
    case round =>
      obtain ⟨k, hk, rfl, rfl, hb, rfl⟩ := hrel
      have c2 : wr.cell? ⟨w.heap.size, 2, none⟩ = some (.slice a m cap) := cell_box (World.alloc_heap_new w _) (hb.block w.heap.size (by omega)) rfl
      have hbw : Below w.heap.size w wr := ((Below.refl _ _).alloc (Nat.le_refl _) _).trans (hb.mono (by omega))
      have HB := Lib.hid hb; have HBW := Lib.hid hbw; clear hb hbw
      by_cases hlt : k < m
      · have hkl : k < t.kids.length := by rw [HM.out]; exact hlt
        obtain ⟨b, o, xa, xcap, rfl, hbn, hx, x0, x1, x2⟩ := kid_at HTY.out HBW.out (Nat.le_refl _) hkl
        have hst := sizes_take t.kids k hkl
        have hsk := size_kid t.kids k hkl
        have hsl := sizes_take_le t.kids (k + 1)
        have hss := size_kids t
        have hcall := IH.out t.kids[k] xa xcap wr (by have := HN.out; omega) (by have := HS.out; omega) hx
        unfold tv at hcall
        obtain ⟨x, hx'⟩ : ∃ x, t.kids[k] = x := ⟨_, rfl⟩
        rw [hx'] at x0 x1 x2 hcall hst
        obtain ⟨s1, hs1⟩ : ∃ s1, Tp.sizes (t.kids.take k) = s1 := ⟨_, rfl⟩
        obtain ⟨s2, hs2⟩ : ∃ s1, Tp.size x = s1 := ⟨_, rfl⟩
        rw [hs2] at hcall hst; rw [hs1] at hst ⊢
        have hbd : (s1 : Int) + s2 ≤ 10000 := by have := HS.out; omega
        have HST := Lib.hid hst; have HC := Lib.hid hcall; have HX := Lib.hid hx'
        clear hst hcall hsk hsl hss hx hx' hs1 hs2
        have hp1 : (0 : Int) ≤ s1 := Int.natCast_nonneg _
        have hp2 : (0 : Int) ≤ s2 := Int.natCast_nonneg _
        go_wp2_with (go_at_call 25; refine HC.out.mono ?_; rintro e w' ⟨rfl, hb'⟩)
        go_roundg (m - (k + 1))
        case measure => omega
        case rel => exact ⟨k + 1, by omega, by go_num, by rw [HST.out]; go_num, HB.out.trans (hb'.mono (by have := HB.out.size; rw [World.size_alloc] at this; exact this)), rfl⟩
      · obtain rfl : k = m := by omega
        go_wp2_with fail
        go_ret
        exact ⟨ret_intT (by rw [List.take_of_length_le (by rw [HM.out]; exact Nat.le_refl _), size_kids t]; omega), HBW.out⟩

set_option maxHeartbeats 1000000 in
theorem rwithout_any (q : Int) : ∀ (n : Nat) (t : T) (a : Option Addr) (cap : Nat) (w : World), Tp.size t ≤ n → TyAt (LT w.heap.size) w t a cap →
    Calls Try.prog 28 #[tv t a cap, .int .i64 q] w fun e w' => e = .returned (.bool (Tp.without q t)) ∧ Below w.heap.size w w' := by
  intro n
  induction n with
  | zero => intro t a cap w h; have := Tp.size_pos t; omega
  | succ n ih =>
    intro t a cap w hn hty
    have hm10 : (t.kids.length : Int) ≤ 9223372036854775807 := by have h1 := hty.2.2.1; have h2 := hty.2.2.2.1; unfold maxLen at h2; omega
    have HN := Lib.hid hn; have HTY := Lib.hid hty; have IH := Lib.hid ih; clear hn hty ih
    have hlen : ∃ m, t.kids.length = m := ⟨_, rfl⟩
    obtain ⟨m, hm⟩ := hlen
    obtain ⟨kk, hkk⟩ : ∃ kk, t.kind = kk := ⟨_, rfl⟩
    obtain ⟨res, hres⟩ : ∃ res, Tp.without q t = res := ⟨_, rfl⟩
    unfold tv
    rw [hm] at hm10 ⊢
    rw [hkk, hres]
    have HM := Lib.hid hm; have HKK := Lib.hid hkk; have HRES := Lib.hid hres; clear hm hkk hres
    by_cases hkq : kk = q
    · have hr : res = false := by rw [← HRES.out, without_kids, HKK.out]; simp [hkq]
      have HR := Lib.hid hr; clear hr
      have hkq' : (kk == q) = true := by simp [hkq]
      have HKQ := Lib.hid hkq; clear hkq
      go_enter Try.func28, Try.ntmps28
      go_wp2_with fail
      go_ret
      exact ⟨ret_boolT HR.out.symm, (Below.refl _ _).alloc (Nat.le_refl _) _⟩
    · have hr : res = Tp.withouts q t.kids := by rw [← HRES.out, without_kids, HKK.out]; simp [hkq]
      have HR := Lib.hid hr; clear hr
      have hkq' : (kk == q) = false := by simp [hkq]
      have HKQ := Lib.hid hkq; clear hkq
      go_enter Try.func28, Try.ntmps28
      go_wp2_with fail
      go_loopg [5] m (fun gk i wr => ∃ k : Nat, k ≤ m ∧ i = .int .i64 k ∧ Tp.withouts q (t.kids.take k) = true ∧ Below (w.heap.size + 1) (w.alloc (.cells #[.int .i64 kk, .int .i64 t.num, .slice a m cap] 26)) wr ∧ gk = m - k)
      case atStart => exact ⟨0, Nat.zero_le _, rfl, rfl, Below.refl _ _, rfl⟩
      case round =>
        obtain ⟨k, hk, rfl, hw, hb, rfl⟩ := hrel
        have c2 : wr.cell? ⟨w.heap.size, 2, none⟩ = some (.slice a m cap) := cell_box (World.alloc_heap_new w _) (hb.block w.heap.size (by omega)) rfl
        have hbw : Below w.heap.size w wr := ((Below.refl _ _).alloc (Nat.le_refl _) _).trans (hb.mono (by omega))
        have HB := Lib.hid hb; have HBW := Lib.hid hbw; have HW := Lib.hid hw; clear hb hbw hw
        by_cases hlt : k < m
        · have hkl : k < t.kids.length := by rw [HM.out]; exact hlt
          obtain ⟨b, o, xa, xcap, rfl, hbn, hx, x0, x1, x2⟩ := kid_at HTY.out HBW.out (Nat.le_refl _) hkl
          have hst := withouts_take q t.kids k hkl
          have hge := withouts_get q t.kids k hkl
          have hsk := size_kid t.kids k hkl
          have hss := size_kids t
          have hcall := IH.out t.kids[k] xa xcap wr (by have := HN.out; omega) hx
          unfold tv at hcall
          obtain ⟨x, hx'⟩ : ∃ x, t.kids[k] = x := ⟨_, rfl⟩
          rw [hx'] at x0 x1 x2 hcall hst hge
          obtain ⟨s2, hs2⟩ : ∃ s1, Tp.without q x = s1 := ⟨_, rfl⟩
          rw [hs2] at hcall hst hge
          have HST := Lib.hid hst; have HC := Lib.hid hcall; have HGE := Lib.hid hge
          clear hst hcall hsk hss hx hx' hs2 hge
          cases s2 with
          | true =>
            go_wp2_with (go_at_call 28; refine HC.out.mono ?_; rintro e w' ⟨rfl, hb'⟩)
            go_roundg (m - (k + 1))
            case measure => omega
            case rel => exact ⟨k + 1, by omega, by go_num, by rw [HST.out, HW.out]; rfl, HB.out.trans (hb'.mono (by have := HB.out.size; rw [World.size_alloc] at this; exact this)), rfl⟩
          | false =>
            go_wp2_with (go_at_call 28; refine HC.out.mono ?_; rintro e w' ⟨rfl, hb'⟩)
            go_ret
            exact ⟨ret_boolT (by rw [HR.out]; exact (HGE.out trivial).symm), HBW.out.trans (hb'.mono HBW.out.size)⟩
        · obtain rfl : k = m := by omega
          go_wp2_with fail
          go_ret
          exact ⟨ret_boolT (by rw [HR.out, ← HW.out, List.take_of_length_le (by rw [HM.out]; exact Nat.le_refl _)]), HBW.out⟩

end Go.Proofs.Ytaaapdfdedknfaa

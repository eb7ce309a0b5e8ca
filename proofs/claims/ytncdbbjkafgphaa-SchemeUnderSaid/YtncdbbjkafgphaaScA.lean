/- What the laws of stage 11 first ask of types: Deep, count, Few, Small; a variable. The law's Few and Small of rows of types; a variable. The law's Small of a row of types. The law's plain: no ? and, if one likes, no variable. Rows of binds; the law's static and Closing. The law's Closing; suretykeep.Binds. -/
import Derived.Test.YtncdbbjkafgphaaScP
import Derived.Test.YtncdbbjkafgphaaTrF
import Derived.Test.YtncdbbjkafgphaaPrT
import Derived.Test.YtncdbbjkafgphaaTqB
import Derived.Test.YtncdbbjkafgphaaTkB
import Derived.Deep.RegionHeld3
import Derived.Test.YtncdbbjkafgphaaSeqA
namespace Go.Proofs.Ytncdbbjkafgphaa
open Go Go.RowKit
open Tp (T)

namespace Tp
mutual
/-- Is a type deeper than a number? -/
def deep : T → Nat → Bool | .mk _ _ l, n => match n with | 0 => true | n + 1 => deeps l n
def deeps : List T → Nat → Bool | [], _ => false | t :: r, n => deep t n || deeps r n
end
theorem deep_zero (t : T) : deep t 0 = true := by cases t; simp [deep]
theorem deep_succ (t : T) (n : Nat) : deep t (n + 1) = deeps t.kids n := by cases t; simp [deep, T.kids]
theorem deeps_append (n : Nat) : ∀ a b : List T, deeps (a ++ b) n = (deeps a n || deeps b n)
  | [], b => by simp [deeps]
  | t :: r, b => by simp [deeps, deeps_append n r b, Bool.or_assoc]
theorem deeps_take (l : List T) (n k : Nat) (h : k < l.length) : deeps (l.take (k + 1)) n = (deeps (l.take k) n || deep l[k] n) := by
  rw [List.take_succ_eq_append_getElem h, deeps_append]; simp [deeps]
theorem deeps_get (l : List T) (n k : Nat) (h : k < l.length) (hf : deep l[k] n = true) : deeps l n = true := by
  have e := deeps_append n (l.take (k + 1)) (l.drop (k + 1))
  rw [List.take_append_drop, deeps_take l n k h, hf] at e
  simpa using e
mutual
/-- The law's count, which goes no farther than sixty. -/
def fc : T → Nat → Nat | .mk _ _ l, n => fcs l (n + 1)
def fcs : List T → Nat → Nat | [], n => n | t :: r, n => if n ≤ 60 then fcs r (fc t n) else n
end
theorem fc_eq (t : T) (n : Nat) : fc t n = fcs t.kids (n + 1) := by cases t; simp [fc, T.kids]
theorem fcs_stop {l : List T} {n : Nat} (h : ¬ n ≤ 60) : fcs l n = n := by cases l <;> simp [fcs, h]
theorem fcs_drop {l : List T} {k n : Nat} (h : k < l.length) (hn : n ≤ 60) : fcs (l.drop k) n = fcs (l.drop (k + 1)) (fc l[k] n) := by
  rw [List.drop_eq_getElem_cons h, fcs, if_pos hn]
mutual
theorem fc_le : ∀ (t : T) (n : Nat), n ≤ 60 → fc t n ≤ 61
  | .mk k x l, n, h => by simp only [fc]; exact fcs_le l (n + 1) (by omega)
theorem fcs_le : ∀ (l : List T) (n : Nat), n ≤ 61 → fcs l n ≤ 61
  | [], n, h => by simpa [fcs] using h
  | t :: r, n, h => by
    simp only [fcs]
    split
    · rename_i h2; exact fcs_le r _ (fc_le t n h2)
    · exact h
end
/-- Is a type small enough to be put into another one? -/
def small (t : T) : Bool := !decide (600 < sizes [t]) && !deep t 60 && !decide (8 < (vars t []).length)
def few (t : T) : Bool := decide (fc t 0 ≤ 60)
end Tp
set_option maxRecDepth 100000 in
set_option maxHeartbeats 2000000 in
theorem rdeep_any : ∀ (n : Nat) (d : Int) (t : T) (a : Option Addr) (cap : Nat) (w : World), d = (n : Int) → n ≤ 1000 → TyAt (LT w.heap.size) w t a cap →
    Calls Try.prog 35 #[tv t a cap, .int .i64 d] w fun e w' => e = .returned (.bool (Tp.deep t n)) ∧ Below w.heap.size w w' := by
  intro n
  induction n with
  | zero =>
    intro d t a cap w hd _ _
    rw [Tp.deep_zero]
    have h0 : d ≤ 0 := by omega
    obtain ⟨k, x, m, hv⟩ := TV.mk t
    rw [tv_of hv]
    have HB := Lib.hid (show Below w.heap.size w (w.alloc (.cells #[.int .i64 k, .int .i64 x, .slice a m cap] 24)) from (Below.refl _ _).alloc (Nat.le_refl _) _)
    clear hv hd
    go_enter Try.func35, Try.ntmps35
    go_wp2_with fail
    go_ret
    exact ⟨rfl, HB.out⟩
  | succ n ih =>
    intro d t a cap w hd hn hty
    have h0 : ¬ d ≤ 0 := by omega
    obtain ⟨k, x, m, hv⟩ := TV.mk t
    have hm2 : (m : Int) ≤ 9223372036854775807 := by have h1 := hty.2.2.1; have h2 := hty.2.2.2.1; rw [hv.2.2] at h1; unfold maxLen at h2; omega
    rw [tv_of hv, Tp.deep_succ]
    obtain ⟨res, hres⟩ : ∃ z, Tp.deeps t.kids n = z := ⟨_, rfl⟩
    rw [hres]
    have hcall0 := fun t' xa xc w' (h : TyAt (LT w'.heap.size) w' t' xa xc) => ih (wrap64 (d - 1)) t' xa xc w' (by unfold wrap64; omega) (by omega) h
    have HP := Lib.hid hty; have IH := Lib.hid hcall0; have HM := Lib.hid hv.2.2; have HR := Lib.hid hres
    clear hn hty ih hv hres hd hcall0
    go_enter Try.func35, Try.ntmps35
    go_wp2_with fail
    go_loopg [5] m (fun gk v5 wr => ∃ (i : Nat), v5 = .int .i64 (i : Int) ∧ i ≤ m ∧ Tp.deeps (t.kids.take i) n = false ∧ Below (w.heap.size + 1) (w.alloc (.cells #[.int .i64 k, .int .i64 x, .slice a m cap] 24)) wr ∧ gk = m - i)
    case atStart => exact ⟨0, rfl, Nat.zero_le _, by simp [Tp.deeps], Below.refl _ _, rfl⟩
    case round =>
      obtain ⟨i, rfl, hi, hd, hb, rfl⟩ := hrel
      have c2 : wr.cell? ⟨w.heap.size, 2, none⟩ = some (.slice a m cap) := cell_box (World.alloc_heap_new w _) (hb.block w.heap.size (by omega)) rfl
      have hbw : Below w.heap.size w wr := ((Below.refl _ _).alloc (Nat.le_refl _) _).trans (hb.mono (by omega))
      have HB := Lib.hid hb; have HBW := Lib.hid hbw; have HD := Lib.hid hd
      clear hb hbw hd
      by_cases hlt : i < m
      · have hil : i < t.kids.length := by rw [HM.out]; exact hlt
        obtain ⟨b, o, xa, xc, rfl, hbn, hx, x0, x1, x2⟩ := kid_at HP.out HBW.out (Nat.le_refl _) (k := i) hil
        have hcall := IH.out t.kids[i] xa xc wr hx
        have hst := Tp.deeps_take t.kids n i hil
        have hge := Tp.deeps_get t.kids n i hil
        rw [HD.out, Bool.false_or] at hst
        obtain ⟨q, hq⟩ : ∃ q, t.kids[i] = q := ⟨_, rfl⟩
        rw [hq] at hcall hst hge x0 x1 x2
        obtain ⟨r, hr⟩ : ∃ r, Tp.deep q n = r := ⟨_, rfl⟩
        rw [hr] at hcall hst hge
        unfold tv at hcall
        have HCL := Lib.hid hcall; have HST := Lib.hid hst; have HGE := Lib.hid hge
        clear hcall hst hge hx hq hr
        cases r with
        | true =>
          go_wp2_with (go_at_call 35; refine HCL.out.mono ?_; rintro e w' ⟨rfl, hb'⟩)
          go_ret
          exact ⟨ret_boolT (by rw [← HR.out]; exact (HGE.out trivial).symm), HBW.out.trans (hb'.mono HBW.out.size)⟩
        | false =>
          go_wp2_with (go_at_call 35; refine HCL.out.mono ?_; rintro e w' ⟨rfl, hb'⟩)
          go_roundg (m - (i + 1))
          case measure => omega
          case rel => exact ⟨i + 1, by first | rfl | go_num, by omega, HST.out, HB.out.trans (hb'.mono (by have := HB.out.size; rw [World.size_alloc] at this; exact this)), rfl⟩
      · obtain rfl : i = m := by omega
        go_wp2_with fail
        go_ret
        refine ⟨ret_boolT ?_, HBW.out⟩
        rw [← HR.out, ← HD.out, List.take_of_length_le (by rw [HM.out]; exact Nat.le_refl _)]
set_option maxRecDepth 100000 in
set_option maxHeartbeats 2000000 in
theorem count60_any : ∀ (sz : Nat) (t : T) (a : Option Addr) (cap n : Nat) (w : World), Tp.size t ≤ sz → n ≤ 60 → TyAt (LT w.heap.size) w t a cap →
    Calls Try.prog 36 #[tv t a cap, .int .i64 (n : Int)] w fun e w' => e = .returned (.int .i64 (Tp.fc t n : Int)) ∧ Below w.heap.size w w' := by
  intro sz
  induction sz with
  | zero => intro t a cap n w h; have := Tp.size_pos t; omega
  | succ sz ih =>
    intro t a cap n w hn hc hty
    obtain ⟨k, x, m, hv⟩ := TV.mk t
    have hm2 : (m : Int) ≤ 9223372036854775807 := by have h1 := hty.2.2.1; have h2 := hty.2.2.2.1; rw [hv.2.2] at h1; unfold maxLen at h2; omega
    rw [tv_of hv, Tp.fc_eq]
    obtain ⟨res, hres⟩ : ∃ z, Tp.fcs t.kids (n + 1) = z := ⟨_, rfl⟩
    rw [hres]
    have HN := Lib.hid hn; have HP := Lib.hid hty; have IH := Lib.hid ih; have HM := Lib.hid hv.2.2; have HR := Lib.hid hres; have HC := Lib.hid hc; have HSK := Lib.hid (size_kids t)
    clear hn hty ih hv hres hc
    go_enter Try.func36, Try.ntmps36
    go_wp2_with fail
    go_loopg [1, 5] m (fun gk v1 v5 wr => ∃ (c i : Nat), v1 = .int .i64 (c : Int) ∧ v5 = .int .i64 (i : Int) ∧ i ≤ m ∧ c ≤ 61 ∧ Tp.fcs (t.kids.drop i) c = res ∧ Below (w.heap.size + 1) (w.alloc (.cells #[.int .i64 k, .int .i64 x, .slice a m cap] 24)) wr ∧ gk = m - i)
    case atStart => exact ⟨n + 1, 0, by rw [show wrap64 ((n : Int) + 1) = ((n + 1 : Nat) : Int) from by have := HC.out; unfold wrap64; omega], rfl, Nat.zero_le _, by have := HC.out; omega, by rw [List.drop_zero]; exact HR.out, Below.refl _ _, rfl⟩
    case round =>
      obtain ⟨c, i, rfl, rfl, hi, hc, hcn, hb, rfl⟩ := hrel
      have c2 : wr.cell? ⟨w.heap.size, 2, none⟩ = some (.slice a m cap) := cell_box (World.alloc_heap_new w _) (hb.block w.heap.size (by omega)) rfl
      have hbw : Below w.heap.size w wr := ((Below.refl _ _).alloc (Nat.le_refl _) _).trans (hb.mono (by omega))
      have HB := Lib.hid hb; have HBW := Lib.hid hbw; have HCN := Lib.hid hcn; have HCC := Lib.hid hc
      clear hb hbw hcn
      by_cases hlt : i < m
      · by_cases hle : c ≤ 60
        · have hle' : (c : Int) ≤ 60 := by omega
          have hil : i < t.kids.length := by rw [HM.out]; exact hlt
          obtain ⟨b, o, xa, xc, rfl, hbn, hx, x0, x1, x2⟩ := kid_at HP.out HBW.out (Nat.le_refl _) (k := i) hil
          have hcall := IH.out t.kids[i] xa xc c wr (by have := HN.out; have := HSK.out; have := size_kid t.kids i hil; omega) hle hx
          have hst := Tp.fcs_drop (l := t.kids) (k := i) (n := c) hil hle
          have hle2 := Tp.fc_le t.kids[i] c hle
          obtain ⟨q, hq⟩ : ∃ q, t.kids[i] = q := ⟨_, rfl⟩
          rw [hq] at hcall hst hle2 x0 x1 x2
          obtain ⟨r, hr⟩ : ∃ r, Tp.fc q c = r := ⟨_, rfl⟩
          rw [hr] at hcall hst hle2
          unfold tv at hcall
          have HCL := Lib.hid hcall; have HST := Lib.hid hst; have HL2 := Lib.hid hle2
          clear hcall hst hle2 hx hq hr
          go_wp2_with (go_at_call 36; refine HCL.out.mono ?_; rintro e w' ⟨rfl, hb'⟩)
          go_roundg (m - (i + 1))
          case measure => omega
          case rel => exact ⟨r, i + 1, rfl, by first | rfl | go_num, by omega, HL2.out, by rw [← HST.out]; exact HCN.out, HB.out.trans (hb'.mono (by have := HB.out.size; rw [World.size_alloc] at this; exact this)), rfl⟩
        · have hle' : ¬ (c : Int) ≤ 60 := by omega
          go_wp2_with fail
          go_ret
          refine ⟨?_, HBW.out⟩
          rw [← HCN.out, Tp.fcs_stop hle]; rfl
      · obtain rfl : i = m := by omega
        go_wp2_with fail
        go_ret
        refine ⟨?_, HBW.out⟩
        rw [← HCN.out, List.drop_of_length_le (by rw [HM.out]; exact Nat.le_refl _)]
        rfl
end Go.Proofs.Ytncdbbjkafgphaa
namespace Go.Proofs.Ytncdbbjkafgphaa
open Go Go.RowKit
open Tp (T)

theorem all_take {f : T → Bool} (l : List T) (k : Nat) (h : k < l.length) : (l.take (k + 1)).all f = ((l.take k).all f && f l[k]) := by
  rw [List.take_succ_eq_append_getElem h, List.all_append]; simp
theorem all_no {f : T → Bool} (l : List T) (k : Nat) (h : k < l.length) (hf : f l[k] = false) : l.all f = false := by
  rw [List.all_eq_false]; exact ⟨l[k], List.getElem_mem h, by simp [hf]⟩
set_option maxRecDepth 100000 in
set_option maxHeartbeats 2000000 in
theorem few_any (l : List T) (a : Option Addr) (cap : Nat) (w : World) (hl : l.length ≤ maxLen) (hk : KidsAt (LT w.heap.size) w l a) :
    Calls Try.prog 10 #[.slice a l.length cap] w fun e w' => e = .returned (.bool (l.all Tp.few)) ∧ Below w.heap.size w w' := by
  have HK := Lib.hid hk
  obtain ⟨m, hm⟩ : ∃ m, l.length = m := ⟨_, rfl⟩
  obtain ⟨res, hres⟩ : ∃ z, l.all Tp.few = z := ⟨_, rfl⟩
  rw [hm] at hl ⊢
  rw [hres]
  have hm2 : (m : Int) ≤ 9223372036854775807 := by unfold maxLen at hl; omega
  have HM := Lib.hid hm; have HR := Lib.hid hres
  clear hk hm hres hl
  go_enter Try.func10, Try.ntmps10
  go_wp2_with fail
  go_loopg [3] m (fun gk v3 wr => ∃ (i : Nat), v3 = .int .i64 (i : Int) ∧ i ≤ m ∧ (l.take i).all Tp.few = true ∧ Below w.heap.size w wr ∧ gk = m - i)
  case atStart => exact ⟨0, rfl, Nat.zero_le _, rfl, Below.refl _ _, rfl⟩
  case round =>
    obtain ⟨i, rfl, hi, hd, hb, rfl⟩ := hrel
    have HB := Lib.hid hb; have HD := Lib.hid hd
    clear hb hd
    by_cases hlt : i < m
    · have hil : i < l.length := by rw [HM.out]; exact hlt
      have hk2 : KidsAt (LT wr.heap.size) wr l a := HK.out.below HB.out (fun _ h => h) (fun b h => Nat.lt_of_lt_of_le h HB.out.size)
      obtain ⟨b, o, rfl, hbn, hN⟩ := hk2.first (by omega)
      obtain ⟨xa, xc, hx, x0, x1, x2⟩ := (hN i hil).ty
      have hcall := count60_any (Tp.size l[i]) l[i] xa xc 0 wr (Nat.le_refl _) (by omega) hx
      have hst := all_take (f := Tp.few) l i hil
      have hno := all_no (f := Tp.few) l i hil
      rw [HD.out, Bool.true_and] at hst
      obtain ⟨q, hq⟩ : ∃ q, l[i] = q := ⟨_, rfl⟩
      rw [hq] at hcall hst hno x0 x1 x2
      unfold tv at hcall
      obtain ⟨r, hr⟩ : ∃ r, Tp.fc q 0 = r := ⟨_, rfl⟩
      rw [show Tp.few q = decide (r ≤ 60) by unfold Tp.few; rw [hr]] at hst hno
      rw [hr] at hcall
      have HCL := Lib.hid hcall; have HST := Lib.hid hst; have HNO := Lib.hid hno
      clear hcall hst hno hx hq hr hk2 hN hbn
      by_cases h60 : r ≤ 60
      · have g : ¬ (60 : Int) < (r : Int) := by omega
        have HG := Lib.hid h60; clear h60
        go_wp2_with (go_at_call 36; refine HCL.out.mono ?_; rintro e w' ⟨rfl, hb'⟩)
        go_roundg (m - (i + 1))
        case measure => omega
        case rel => exact ⟨i + 1, by first | rfl | go_num, by omega, by rw [HST.out]; exact decide_eq_true HG.out, HB.out.trans (hb'.mono HB.out.size), rfl⟩
      · have g : (60 : Int) < (r : Int) := by omega
        have HG := Lib.hid h60; clear h60
        go_wp2_with (go_at_call 36; refine HCL.out.mono ?_; rintro e w' ⟨rfl, hb'⟩)
        go_ret
        exact ⟨ret_boolT (by rw [← HR.out]; exact (HNO.out (decide_eq_false HG.out)).symm), HB.out.trans (hb'.mono HB.out.size)⟩
    · obtain rfl : i = m := by omega
      go_wp2_with fail
      go_ret
      refine ⟨ret_boolT ?_, HB.out⟩
      rw [← HR.out, ← HD.out, List.take_of_length_le (by rw [HM.out]; exact Nat.le_refl _)]
set_option maxHeartbeats 1000000 in
theorem tvar_any (n : Int) (w : World) : Calls Try.prog 33 #[.int .i64 n] w fun e w' => e = .returned (.agg #[.int .i64 6, .int .i64 n, .slice none 0 0]) ∧ Below w.heap.size w w' := by
  have hx := World.alloc_heap_new w (.cells #[.int .i64 6, .int .i64 n, .slice none 0 0] 24)
  have hb : Below w.heap.size w (w.alloc (.cells #[.int .i64 6, .int .i64 n, .slice none 0 0] 24)) := (Below.refl _ _).alloc (Nat.le_refl _) _
  go_enter Try.func33, Try.ntmps33
  go_wp2_with fail
  exact bodyPost_ret_by (v := .agg #[.int .i64 6, .int .i64 n, .slice none 0 0]) (results_cell_row (p := 2) (ty := 24) (by kernel_rfl) _ _ w.heap.size 24 _ (0, 0) _ rfl hx Try.underlying24 rfl (by kernel_rfl)) rfl ⟨rfl, hb⟩
end Go.Proofs.Ytncdbbjkafgphaa
namespace Go.Proofs.Ytncdbbjkafgphaa
open Go Go.RowKit
open Tp (T)

set_option maxRecDepth 100000 in
set_option maxHeartbeats 4000000 in
theorem small_any (l : List T) (a : Option Addr) (cap : Nat) (w : World) (hl : l.length ≤ maxLen) (hk : KidsAt (LT w.heap.size) w l a) :
    Calls Try.prog 9 #[.slice a l.length cap] w fun e w' => e = .returned (.bool (l.all Tp.small)) ∧ Below w.heap.size w w' := by
  have HK := Lib.hid hk
  obtain ⟨m, hm⟩ : ∃ m, l.length = m := ⟨_, rfl⟩
  obtain ⟨res, hres⟩ : ∃ z, l.all Tp.small = z := ⟨_, rfl⟩
  rw [hm] at hl ⊢
  rw [hres]
  have hm2 : (m : Int) ≤ 9223372036854775807 := by unfold maxLen at hl; omega
  have HM := Lib.hid hm; have HR := Lib.hid hres
  clear hk hm hres hl
  go_enter Try.func9, Try.ntmps9
  go_wp2_with fail
  go_loopg [3] m (fun gk v3 wr => ∃ (i : Nat), v3 = .int .i64 (i : Int) ∧ i ≤ m ∧ (l.take i).all Tp.small = true ∧ Below w.heap.size w wr ∧ gk = m - i)
  case atStart => exact ⟨0, rfl, Nat.zero_le _, rfl, Below.refl _ _, rfl⟩
  case round =>
    obtain ⟨i, rfl, hi, hd, hb, rfl⟩ := hrel
    have HB := Lib.hid hb; have HD := Lib.hid hd
    clear hb hd
    by_cases hlt : i < m
    · have hil : i < l.length := by rw [HM.out]; exact hlt
      have hk2 : KidsAt (LT wr.heap.size) wr l a := HK.out.below HB.out (fun _ h => h) (fun b h => Nat.lt_of_lt_of_le h HB.out.size)
      obtain ⟨b, o, rfl, hbn, hN⟩ := hk2.first (by omega)
      obtain ⟨xa, xc, hx, x0, x1, x2⟩ := (hN i hil).ty
      have hst := all_take (f := Tp.small) l i hil
      have hno := all_no (f := Tp.small) l i hil
      rw [HD.out, Bool.true_and] at hst
      obtain ⟨q, hq⟩ : ∃ q, l[i] = q := ⟨_, rfl⟩
      rw [hq] at hx hst hno x0 x1 x2
      obtain ⟨k0, n0, m0, hv⟩ := TV.mk q
      rw [hv.1] at x0; rw [hv.2.1] at x1; rw [hv.2.2] at x2
      have hrow := row_one hx hv.1 hv.2.1 hv.2.2
      obtain ⟨W1, hW1⟩ : ∃ W, wr.alloc (.cells #[.int .i64 k0, .int .i64 n0, .slice xa m0 xc] 24) = W := ⟨_, rfl⟩
      have hb1 : Below wr.heap.size wr W1 := by rw [← hW1]; exact (Below.refl _ _).alloc (Nat.le_refl _) _
      rw [hW1] at hrow
      have hhe := heavy_any [q] (some ⟨wr.heap.size, 0, none⟩) 1 W1 (by simp) hrow
      have hde := fun x (h : Below W1.heap.size W1 x) => rdeep_any 60 60 q xa xc x rfl (by omega) (ty_later hx (hb1.tr h (Nat.le_refl _)))
      have hva := fun x (h : Below W1.heap.size W1 x) (hs : Tp.size q ≤ 1000000) => rvarsall_any q xa xc x hs (ty_later hx (hb1.tr h (Nat.le_refl _)))
      have hcx := fun x (h : Below W1.heap.size W1 x) => (⟨((hb1.tr h (Nat.le_refl _)).cell (p := ⟨b, o + i * 3, none⟩) hbn).trans x0, ((hb1.tr h (Nat.le_refl _)).cell (p := ⟨b, o + i * 3 + 1, none⟩) hbn).trans x1, ((hb1.tr h (Nat.le_refl _)).cell (p := ⟨b, o + i * 3 + 2, none⟩) hbn).trans x2⟩ : _ ∧ _ ∧ _)
      obtain ⟨hvy, hhv⟩ : ∃ z, decide (600 < Tp.sizes [q]) = z := ⟨_, rfl⟩
      obtain ⟨dp, hdp⟩ : ∃ z, Tp.deep q 60 = z := ⟨_, rfl⟩
      obtain ⟨vl, hvl⟩ : ∃ z, (Tp.vars q []).length = z := ⟨_, rfl⟩
      have hsm : Tp.small q = (!hvy && !dp && !decide (8 < vl)) := by unfold Tp.small; rw [hhv, hdp, hvl]
      rw [hsm] at hst hno
      rw [hhv] at hhe
      rw [hdp] at hde
      rw [tv_of hv] at hde hva
      have hsz : hvy = false → Tp.size q ≤ 1000000 := fun h => by rw [h] at hhv; have := of_decide_eq_false hhv; simp only [Tp.sizes] at this; omega
      have HHE := Lib.hid hhe; have HDE := Lib.hid hde; have HVA := Lib.hid hva; have HCX := Lib.hid hcx; have HST := Lib.hid hst; have HNO := Lib.hid hno; have HSZ := Lib.hid hsz; have HVL := Lib.hid hvl; have HB1 := Lib.hid (HB.out.tr hb1 (Nat.le_refl _)); have HW1 := Lib.hid hW1
      clear hhe hde hva hcx hst hno hsz hvl hb1 hW1 hrow hx hq hv hk2 hN hhv hdp hsm
      cases hvy with
      | true =>
        go_wp2_with (go_at_call 34; rw [HW1.out]; refine HHE.out.mono ?_; clear x0 x1 x2; rintro e w2 ⟨rfl, hb2⟩)
        go_ret
        exact ⟨ret_boolT (by rw [← HR.out]; exact (HNO.out rfl).symm), HB1.out.tr hb2 (Nat.le_refl _)⟩
      | false =>
        have hsz := HSZ.out rfl
        have HS := Lib.hid hsz; clear hsz
        cases dp with
        | true =>
          go_wp2_with (first | (go_at_call 34; rw [HW1.out]; refine HHE.out.mono ?_; clear x0 x1 x2; rintro e w2 ⟨rfl, hb2⟩; have HB2 := Lib.hid hb2; clear hb2; obtain ⟨x0, x1, x2⟩ := HCX.out _ HB2.out) | (go_at_call 35; refine (HDE.out _ HB2.out).mono ?_; clear x0 x1 x2; rintro e w3 ⟨rfl, hb3⟩))
          go_ret
          exact ⟨ret_boolT (by rw [← HR.out]; exact (HNO.out rfl).symm), (HB1.out.tr HB2.out (Nat.le_refl _)).tr hb3 (Nat.le_refl _)⟩
        | false =>
          by_cases h8 : 8 < vl
          · have g8 : (8 : Int) < (vl : Int) := by omega
            have H8 := Lib.hid h8; clear h8
            go_wp2_with (first | (go_at_call 34; rw [HW1.out]; refine HHE.out.mono ?_; clear x0 x1 x2; rintro e w2 ⟨rfl, hb2⟩; have HB2 := Lib.hid hb2; clear hb2; obtain ⟨x0, x1, x2⟩ := HCX.out _ HB2.out) | (go_at_call 35; refine (HDE.out _ HB2.out).mono ?_; clear x0 x1 x2; rintro e w3 ⟨rfl, hb3⟩; have HB3 := Lib.hid (HB2.out.tr hb3 (Nat.le_refl _)); clear hb3; obtain ⟨x0, x1, x2⟩ := HCX.out _ HB3.out) | (go_at_call 29; refine (HVA.out _ HB3.out HS.out).mono ?_; clear x0 x1 x2; rintro e w4 ⟨v, rfl, hown, hb4⟩; obtain ⟨va, vc, rfl⟩ := own_shapeT hown; rw [HVL.out]; clear hown))
            go_ret
            exact ⟨ret_boolT (by rw [← HR.out]; exact (HNO.out (by rw [decide_eq_true H8.out]; rfl)).symm), (HB1.out.tr HB3.out (Nat.le_refl _)).tr hb4 (Nat.le_refl _)⟩
          · have g8 : ¬ (8 : Int) < (vl : Int) := by omega
            have H8 := Lib.hid h8; clear h8
            go_wp2_with (first | (go_at_call 34; rw [HW1.out]; refine HHE.out.mono ?_; clear x0 x1 x2; rintro e w2 ⟨rfl, hb2⟩; have HB2 := Lib.hid hb2; clear hb2; obtain ⟨x0, x1, x2⟩ := HCX.out _ HB2.out) | (go_at_call 35; refine (HDE.out _ HB2.out).mono ?_; clear x0 x1 x2; rintro e w3 ⟨rfl, hb3⟩; have HB3 := Lib.hid (HB2.out.tr hb3 (Nat.le_refl _)); clear hb3; obtain ⟨x0, x1, x2⟩ := HCX.out _ HB3.out) | (go_at_call 29; refine (HVA.out _ HB3.out HS.out).mono ?_; clear x0 x1 x2; rintro e w4 ⟨v, rfl, hown, hb4⟩; obtain ⟨va, vc, rfl⟩ := own_shapeT hown; rw [HVL.out]; clear hown))
            go_roundg (m - (i + 1))
            case measure => omega
            case rel => exact ⟨i + 1, by first | rfl | go_num, by omega, by rw [HST.out, decide_eq_false H8.out]; rfl, (HB1.out.tr HB3.out (Nat.le_refl _)).tr hb4 (Nat.le_refl _), rfl⟩
    · obtain rfl : i = m := by omega
      go_wp2_with fail
      go_ret
      refine ⟨ret_boolT ?_, HB.out⟩
      rw [← HR.out, ← HD.out, List.take_of_length_le (by rw [HM.out]; exact Nat.le_refl _)]
end Go.Proofs.Ytncdbbjkafgphaa
namespace Go.Proofs.Ytncdbbjkafgphaa
open Go Go.RowKit
open Tp (T)

namespace Tp
mutual
/-- Unit for each ?, and, if it is to be closed, string for each variable. -/
def pl (c : Bool) : T → T | .mk k n l => if k = 5 then .mk 4 0 [] else if k = 6 ∧ c = true then .mk 3 0 [] else .mk k n (pls c l)
def pls (c : Bool) : List T → List T | [] => [] | t :: r => pl c t :: pls c r
end
theorem pls_map (c : Bool) : ∀ l : List T, pls c l = l.map (pl c)
  | [] => rfl
  | t :: r => by simp [pls, pls_map c r]
theorem pl_dyn {c : Bool} {t : T} (h : t.kind = 5) : pl c t = .mk 4 0 [] := by cases t; simp only [T.kind] at h; simp [pl, h]
theorem pl_var {c : Bool} {t : T} (h : t.kind = 6) (hc : c = true) : pl c t = .mk 3 0 [] := by cases t; simp only [T.kind] at h; simp [pl, h, hc]
theorem pl_node {c : Bool} {t : T} (h : ¬ t.kind = 5) (h6 : ¬ (t.kind = 6 ∧ c = true)) : pl c t = .mk t.kind t.num (t.kids.map (pl c)) := by
  cases t
  simp only [T.kind] at h h6
  simp only [pl, h, h6, if_false, pls_map, T.kind, T.num, T.kids]
mutual
theorem pl_size (c : Bool) : ∀ t : T, size (pl c t) ≤ size t
  | .mk k n l => by
    simp only [pl]
    split
    · simp [size, sizes]
    · split
      · simp [size, sizes]
      · simp only [size]; have := pls_size c l; omega
theorem pls_size (c : Bool) : ∀ l : List T, sizes (pls c l) ≤ sizes l
  | [] => by simp [pls]
  | t :: r => by simp only [pls, sizes]; have := pl_size c t; have := pls_size c r; omega
end
end Tp
def PlPost (x : T) (k n : Int) (m : Nat) (wr : World) (e : Ending) (w' : World) : Prop := ∃ a2 c2, e = .returned (.agg #[.int .i64 k, .int .i64 n, .slice a2 m c2]) ∧ TyAt (fun b => wr.heap.size ≤ b ∧ b < w'.heap.size) w' x a2 c2 ∧ Below wr.heap.size wr w'
theorem plPost_ret {x : T} {k n : Int} {m : Nat} {wr : World} : ∀ e w', PlPost x k n m wr e w' → ∃ v, e = .returned v := fun _ _ ⟨_, _, h, _⟩ => ⟨_, h⟩
set_option maxRecDepth 100000 in
set_option maxHeartbeats 4000000 in
theorem plainT_any : ∀ (n : Nat) (t : T) (a : Option Addr) (cap : Nat) (w : World), Tp.size t ≤ n → Tp.size t ≤ 1000000 → TyAt (LT w.heap.size) w t a cap →
    Calls Try.prog 50 #[tv t a cap, .bool true] w (KidPost (Tp.pl true t) w) := by
  intro n
  induction n with
  | zero => intro t a cap w h; have := Tp.size_pos t; omega
  | succ n ih =>
    intro t a cap w hn hs hty
    have hm10 : t.kids.length ≤ 1000000 := by have := Tp.length_le_sizes t.kids; have := size_kids t; omega
    have hi64 : I64 t.kind ∧ I64 t.num := ⟨hty.1, hty.2.1⟩
    have HI := Lib.hid hi64; clear hi64
    have HN := Lib.hid hn; have HS := Lib.hid hs; have HTY := Lib.hid hty; have IH := Lib.hid ih; clear hn hs hty ih
    obtain ⟨m, hm⟩ : ∃ m, t.kids.length = m := ⟨_, rfl⟩
    obtain ⟨kk, hkk⟩ : ∃ kk, t.kind = kk := ⟨_, rfl⟩
    obtain ⟨nn, hnn⟩ : ∃ kk, t.num = kk := ⟨_, rfl⟩
    unfold tv
    rw [hm] at hm10 ⊢
    rw [hkk, hnn]
    have HM := Lib.hid hm; have HKK := Lib.hid hkk; have HNN := Lib.hid hnn; clear hm hkk hnn
    obtain ⟨W2, hW2⟩ : ∃ W2, (w.alloc (.cells #[.int .i64 kk, .int .i64 nn, .slice a m cap] 24)).alloc (.cells #[.int .i64 0, .int .i64 0, .slice none 0 0] 24) = W2 := ⟨_, rfl⟩
    have hw2 : Below w.heap.size w W2 := by rw [← hW2]; exact ((Below.refl _ _).alloc (Nat.le_refl _) _).alloc (by simp) _
    have hs2 : W2.heap.size = w.heap.size + 2 := by rw [← hW2]; simp
    have hx1 : W2.heap[w.heap.size]? = some (.cells #[.int .i64 kk, .int .i64 nn, .slice a m cap] 24) := by rw [← hW2]; exact box1 _ _ _ _ _
    have hx2 : W2.heap[w.heap.size + 1]? = some (.cells #[.int .i64 0, .int .i64 0, .slice none 0 0] 24) := by rw [← hW2]; exact box2 _ _ _ _ _
    have c0 : W2.cell? ⟨w.heap.size, 0, none⟩ = some (.int .i64 kk) := cell_box hx1 rfl rfl
    have c1 : W2.cell? ⟨w.heap.size, 1, none⟩ = some (.int .i64 nn) := cell_box hx1 rfl rfl
    have c2 : W2.cell? ⟨w.heap.size, 2, none⟩ = some (.slice a m cap) := cell_box hx1 rfl rfl
    have HW2 := Lib.hid hW2; have HB2 := Lib.hid hw2; have HS2 := Lib.hid hs2; have HX1 := Lib.hid hx1; have HX2 := Lib.hid hx2
    clear hW2 hw2 hs2 hx1 hx2
    go_enter Try.func50, Try.ntmps50
    go_upto_region 1 with fail
    rw [HW2.out]
    by_cases h5 : kk = 5
    · have g5 : (kk == 5) = true := by simp [h5]
      have hpl := Tp.pl_dyn (c := true) (HKK.out.trans h5)
      have HPD := Lib.hid hpl
      clear h5 hpl
      go_wp2_with (go_at_call 32; refine (leaf_any 4 W2).mono ?_; rintro e w3 ⟨rfl, hb3⟩; obtain ⟨z0, z1, z2, f0, f1, f2⟩ := zero_three ((hb3.block (w.heap.size + 1) (by have := HS2.out; omega)).trans HX2.out); have HB3 := Lib.hid (HB2.out.tr hb3 (Nat.le_refl _)); clear hb3 c0 c1 c2)
      refine bodyPost_ret (v := .agg #[.int .i64 4, .int .i64 0, .slice none 0 0]) (by simp [results, Try.f50, go_sem, z0, z1, z2]) rfl ?_
      rw [HPD.out]
      exact ⟨none, 0, rfl, leaf_at (show I64 4 from i64_nat (by decide) (by decide)), put3 HB3.out (by omega)⟩
    have g5 : (kk == 5) = false := by simp [h5]
    by_cases h6 : kk = 6
    · have g6 : (kk == 6) = true := by simp [h6]
      have hpl := Tp.pl_var (c := true) (HKK.out.trans h6) rfl
      have HPD := Lib.hid hpl
      clear h5 h6 hpl
      go_wp2_with (go_at_call 32; refine (leaf_any 3 W2).mono ?_; rintro e w3 ⟨rfl, hb3⟩; obtain ⟨z0, z1, z2, f0, f1, f2⟩ := zero_three ((hb3.block (w.heap.size + 1) (by have := HS2.out; omega)).trans HX2.out); have HB3 := Lib.hid (HB2.out.tr hb3 (Nat.le_refl _)); clear hb3 c0 c1 c2)
      refine bodyPost_ret (v := .agg #[.int .i64 3, .int .i64 0, .slice none 0 0]) (by simp [results, Try.f50, go_sem, z0, z1, z2]) rfl ?_
      rw [HPD.out]
      exact ⟨none, 0, rfl, leaf_at (show I64 3 from i64_nat (by decide) (by decide)), put3 HB3.out (by omega)⟩
    have g6 : (kk == 6) = false := by simp [h6]
    have HPL := Lib.hid (Tp.pl_node (c := true) (t := t) (by rw [HKK.out]; exact h5) (by rw [HKK.out]; exact fun h => h6 h.1))
    clear h5 h6
    all_goals
     go_upto_region 6 with fail
     have hW3 : W2.alloc (.cells #[.int .i64 kk, .int .i64 nn, .slice none 0 0] 24) = ((w.alloc (.cells #[.int .i64 kk, .int .i64 nn, .slice a m cap] 24)).alloc (.cells #[.int .i64 0, .int .i64 0, .slice none 0 0] 24)).alloc (.cells #[.int .i64 kk, .int .i64 nn, .slice none 0 0] 24) := by rw [← HW2.out]
     rw [hW3]
     try rw [HS2.out]
     clear hW3 c0 c1 c2 g5 g6
     go_wp2_with fail
     have hb0 : Below w.heap.size w (((w.alloc (.cells #[.int .i64 kk, .int .i64 nn, .slice a m cap] 24)).alloc (.cells #[.int .i64 0, .int .i64 0, .slice none 0 0] 24)).alloc (.cells #[.int .i64 kk, .int .i64 nn, .slice none 0 0] 24)) := (((Below.refl _ _).alloc (Nat.le_refl _) _).alloc (by simp) _).alloc (by simp <;> omega) _
     have hb1 : (((w.alloc (.cells #[.int .i64 kk, .int .i64 nn, .slice a m cap] 24)).alloc (.cells #[.int .i64 0, .int .i64 0, .slice none 0 0] 24)).alloc (.cells #[.int .i64 kk, .int .i64 nn, .slice none 0 0] 24)).heap[w.heap.size]? = some (.cells #[.int .i64 kk, .int .i64 nn, .slice a m cap] 24) := (Below.heap_alloc _ _ _ (by simp <;> omega)).trans (box1 _ _ _ _ _)
     have hb2 : (((w.alloc (.cells #[.int .i64 kk, .int .i64 nn, .slice a m cap] 24)).alloc (.cells #[.int .i64 0, .int .i64 0, .slice none 0 0] 24)).alloc (.cells #[.int .i64 kk, .int .i64 nn, .slice none 0 0] 24)).heap[w.heap.size + 1]? = some (.cells #[.int .i64 0, .int .i64 0, .slice none 0 0] 24) := (Below.heap_alloc _ _ _ (by simp)).trans (box2 _ _ _ _ _)
     have hb3 : (((w.alloc (.cells #[.int .i64 kk, .int .i64 nn, .slice a m cap] 24)).alloc (.cells #[.int .i64 0, .int .i64 0, .slice none 0 0] 24)).alloc (.cells #[.int .i64 kk, .int .i64 nn, .slice none 0 0] 24)).heap[w.heap.size + 1 + 1]? = some (.cells #[.int .i64 kk, .int .i64 nn, .slice none 0 0] 24) := by
       have := World.alloc_heap_new ((w.alloc (.cells #[.int .i64 kk, .int .i64 nn, .slice a m cap] 24)).alloc (.cells #[.int .i64 0, .int .i64 0, .slice none 0 0] 24)) (.cells #[.int .i64 kk, .int .i64 nn, .slice none 0 0] 24)
       rw [World.size_alloc, World.size_alloc] at this; exact this
     have H0 := Lib.hid (And.intro hb0 (And.intro hb1 (And.intro hb2 hb3)))
     clear hb0 hb1 hb2 hb3
     go_loopg [6] m (fun gk i wr => ∃ (k : Nat) (ks : List Ke) (v : Value), k ≤ m ∧ i = .int .i64 k ∧ ks.map Ke.t = (t.kids.take k).map (Tp.pl true) ∧ RowK (w.heap.size + 3) wr v ks ∧ wr.heap[w.heap.size]? = some (.cells #[.int .i64 kk, .int .i64 nn, .slice a m cap] 24) ∧ wr.heap[w.heap.size + 1]? = some (.cells #[.int .i64 0, .int .i64 0, .slice none 0 0] 24) ∧
       wr.heap[w.heap.size + 1 + 1]? = some (.cells #[.int .i64 kk, .int .i64 nn, v] 24) ∧ Below w.heap.size w wr ∧ w.heap.size + 3 ≤ wr.heap.size ∧ gk = m - k)
     case atStart => exact ⟨0, [], _, Nat.zero_le _, rfl, by simp, RowK.nil _ _, H0.out.2.1, H0.out.2.2.1, H0.out.2.2.2, H0.out.1, by simp, rfl⟩
     case round =>
       obtain ⟨k, ks, v, hk, rfl, hks, hrow, hbt, hbr, hbu, hbw, hsz, rfl⟩ := hrel
       have hkl : ks.length = k := by have := congrArg List.length hks; rw [List.length_map, List.length_map, List.length_take, HM.out] at this; omega
       obtain ⟨va, vcap, rfl⟩ := own_shapeT hrow.own
       rw [hkl] at hrow hbu
       have cu : wr.cell? ⟨w.heap.size + 1 + 1, 2, none⟩ = some (.slice va k vcap) := cell_box hbu rfl rfl
       have cu0 : wr.cell? ⟨w.heap.size + 1 + 1, 0, none⟩ = some (.int .i64 kk) := cell_box hbu rfl rfl
       have cu1 : wr.cell? ⟨w.heap.size + 1 + 1, 1, none⟩ = some (.int .i64 nn) := cell_box hbu rfl rfl
       have cr0 : wr.cell? ⟨w.heap.size + 1, 0, none⟩ = some (.int .i64 0) := cell_box hbr rfl rfl
       have cr1 : wr.cell? ⟨w.heap.size + 1, 1, none⟩ = some (.int .i64 0) := cell_box hbr rfl rfl
       have cr2 : wr.cell? ⟨w.heap.size + 1, 2, none⟩ = some (.slice none 0 0) := cell_box hbr rfl rfl
       have fr0 : ∀ j, wr.frozen? ⟨w.heap.size + 1, j, none⟩ = false := fun j => by simp [World.frozen?, hbr]
       have FR := Lib.hid fr0; clear fr0
       have fr0 := FR.out 0; have fr1 := FR.out 1; have fr2 := FR.out 2
       have ct : wr.cell? ⟨w.heap.size, 2, none⟩ = some (.slice a m cap) := cell_box hbt rfl rfl
       have HKS := Lib.hid hks; have HROW := Lib.hid hrow; have HBT := Lib.hid hbt; have HBR := Lib.hid hbr; have HBU := Lib.hid hbu; have HBW := Lib.hid hbw; have HSZ := Lib.hid hsz; have HKL := Lib.hid hkl
       clear hks hrow hbt hbr hbu hbw hsz hkl H0
       by_cases hlt : k < m
       · have hkk : k < t.kids.length := by rw [HM.out]; exact hlt
         obtain ⟨b, o, xa, xcap, rfl, hbn, hx, x0, x1, x2⟩ := kid_at HTY.out HBW.out (Nat.le_refl _) hkk
         have hsk := size_kid t.kids k hkk
         have hss := size_kids t
         have htk : t.kids.take (k + 1) = t.kids.take k ++ [t.kids[k]] := List.take_succ_eq_append_getElem hkk
         have hcall := IH.out t.kids[k] xa xcap wr.drew (by have := HN.out; omega) (by have := HS.out; omega) (hx.below ((Below.refl wr.heap.size wr).drew) (fun _ h => h) (fun _ h => h))
         obtain ⟨y, hy'⟩ : ∃ x, t.kids[k] = x := ⟨_, rfl⟩
         rw [hy'] at x0 x1 x2 hcall htk
         obtain ⟨xk, xn, xm, hvy⟩ := TV.mk y
         rw [hvy.1] at x0; rw [hvy.2.1] at x1; rw [hvy.2.2] at x2
         rw [tv_of hvy] at hcall
         obtain ⟨x, hx'⟩ : ∃ x, Tp.pl true y = x := ⟨_, rfl⟩
         rw [hx'] at hcall
         obtain ⟨rk, rn, rm, hvr⟩ := TV.mk x
         have hcall2 : Calls Try.prog 50 #[.agg #[.int .i64 xk, .int .i64 xn, .slice xa xm xcap], .bool true] wr.drew (PlPost x rk rn rm wr) := by
           refine hcall.mono fun e w' hp => ?_
           obtain ⟨a2, c2, h1, h2, h6⟩ := hp
           exact ⟨a2, c2, by rw [h1, tv_of hvr], h2, h6.os, h6.tape, h6.output, h6.size, h6.block⟩
         have HC := Lib.hid hcall2; have HTK := Lib.hid htk; have HVR := Lib.hid hvr; have HXE := Lib.hid hx'; have HYE := Lib.hid hy'
         clear hcall hcall2 htk hx hx' hy' hsk hss hvy hvr
         obtain ⟨i0, hi, hz0, hz1, hz2⟩ := info_parts info_ty
         have hb40 := b40 (Nat.le_trans (Nat.le_of_lt hlt) hm10)
         have HB40 := Lib.hid hb40; clear hb40
         go_wp2_with fail
         go_region_law (first
           | (refine step_call ?_ 50 #[.tmp 36, .tmp 37] #[24, 4] ?_ #[.agg #[.int .i64 xk, .int .i64 xn, .slice xa xm xcap], .bool true] ?_ ?_ HC.out plPost_ret ?_
              (· rfl)
              (· rfl)
              (· simp [Act.eval])
              (· exact enters_of Try.func50 (by kernel_rfl) rfl)
              rintro _ w6 ⟨a2, c2, h1, hty2, hb6⟩
              injection h1 with h1
              subst h1
              have hz6 : wr.heap.size ≤ w6.heap.size := hb6.size
              have cu6 : w6.cell? ⟨w.heap.size + 1 + 1, 2, none⟩ = some (.slice va k vcap) := cell_box HBU.out (hb6.block _ (Nat.lt_of_lt_of_le (by omega) HSZ.out)) rfl
              have lz6 : w.heap.size + 1 + 1 < w6.heap.size := cell_lt cu6
              have HTY2 := Lib.hid hty2
              have HB6 := Lib.hid hb6
              have HZ6 := Lib.hid hz6
              clear hty2 hb6 hz6)
           | (refine step_append_lies _ ?_ (.tmp 31) (.tmp 39) 22 ?_ (w.heap.size + 3) 24 i0 (.agg #[.int .i64 0, .int .i64 0, .slice none 0 0]) 3 40 Try.underlying22 hi hz0 hz1 hz2 ?_ ?_ (.slice va k vcap) k (rowCells ks) ?_ ?_ ⟨w6.heap.size, 0, none⟩ 1 1 [.int .i64 rk, .int .i64 rn, .slice a2 rm c2] ?_ ?_ ?_ ?_ ?_ ?_ ?_ ?_ (w6.heap.size + 1) ?_ ?_
              (· rfl)
              (· rfl)
              (· rfl)
              (· decide)
              (· rfl)
              (· exact ((own_len (HROW.out.keep (fun y _ hy => HB6.out.block y hy) HZ6.out).own HKL.out).alloc _))
              (· rfl)
              (· rfl)
              (· exact World.news_of_block (World.alloc_heap_new w6 _))
              (· exact three_one _ _ _ _ _)
              (· decide)
              (· exact HB40.out.2)
              (· exact HB40.out.1)
              (· exact Nat.le_trans HSZ.out (Nat.le_trans HZ6.out (by simp)))
              (· simp)
              intro g2 cap2 w7 own7 gr7 ly7 _
              have lu7 := far_own gr7 HB6.out HBU.out HROW.out.own (by omega)
              have cu7 : w7.cell? ⟨w.heap.size + 1 + 1, 2, none⟩ = some (.slice va k vcap) := cell_box lu7 rfl rfl
              have fu7 : w7.frozen? ⟨w.heap.size + 1 + 1, 2, none⟩ = false := by simp [World.frozen?, lu7]
              have OW7 := Lib.hid own7
              have GR7 := Lib.hid gr7
              have LY7 := Lib.hid ly7
              have LU7 := Lib.hid lu7
              clear own7 gr7 ly7 lu7))
         all_goals
           have hrow7 := HROW.out.push HKL.out (e := ⟨x, a2, c2⟩) (fun y _ hy => HB6.out.block y hy) HZ6.out HSZ.out HTY2.out (by simp only [keCells, HVR.out.1, HVR.out.2.1, HVR.out.2.2]; exact OW7.out) GR7.out LY7.out
           have lt7 := far_own GR7.out HB6.out HBT.out HROW.out.own (by omega)
           have lr7 := far_own GR7.out HB6.out HBR.out HROW.out.own (by omega)
           have hb7 : Below w.heap.size w w7 := (HBW.out.trans (HB6.out.mono HBW.out.size)).trans ((((Below.refl w.heap.size w6).alloc (Nat.le_trans HBW.out.size HZ6.out) _)).grown GR7.out (by rw [World.size_alloc]; have := HBW.out.size; have := HZ6.out; omega) (fun y hy => by have := (HROW.out.own.lt y hy).1; omega))
           have hz7 : w.heap.size + 3 ≤ w7.heap.size := by have h1 := GR7.out.size; rw [World.size_alloc] at h1; have h2 := HZ6.out; have h3 := HSZ.out; omega
           have R7 := Lib.hid hrow7; have LT7 := Lib.hid lt7; have LR7 := Lib.hid lr7; have HB7 := Lib.hid hb7; have HZ7 := Lib.hid hz7
           clear hrow7 lt7 lr7 hb7 hz7
           go_wp2_with fail
           go_roundg (m - (k + 1))
           case measure => omega
           case rel =>
             refine ⟨k + 1, ks ++ [⟨x, a2, c2⟩], _, by omega, by go_num, ?_, R7.out.keep (fun y hy _ => Below.heap_setCell _ _ _ y (by dsimp only; omega)) (by rw [size_setCell]; exact Nat.le_refl _), ?_, ?_, set2 LU7.out, HB7.out.setCell (by dsimp only; omega) _, by rw [size_setCell]; exact HZ7.out, rfl⟩
             · rw [List.map_append, HKS.out, HTK.out, List.map_append, ← HXE.out, ← HYE.out]; rfl
             · exact (Below.heap_setCell _ _ _ _ (by dsimp only; omega)).trans LT7.out
             · exact (Below.heap_setCell _ _ _ _ (by dsimp only; omega)).trans LR7.out
       · obtain rfl : k = m := by omega
         have hall : ks.map Ke.t = t.kids.map (Tp.pl true) := by rw [HKS.out, List.take_of_length_le (by rw [HM.out]; exact Nat.le_refl _)]
         have HALL := Lib.hid hall; clear hall
         have HSW := Lib.hid (show w.heap.size ≤ wr.heap.size from HBW.out.size)
         go_wp2_with fail
         refine bodyPost_ret (v := .agg #[.int .i64 kk, .int .i64 nn, .slice va k vcap]) (by simp [results, Try.f50, go_sem, cr0, cr1, cr2]) rfl ?_
         have hrw := (HROW.out.keep (fun y hy _ => (Below.heap_setCell _ _ _ y (by dsimp only; omega)).trans ((Below.heap_setCell _ _ _ y (by dsimp only; omega)).trans (Below.heap_setCell _ _ _ y (by dsimp only; omega)))) (by rw [size_setCell, size_setCell, size_setCell]; exact Nat.le_refl _) : RowK (w.heap.size + 3) (((wr.setCell ⟨w.heap.size + 1, 0, none⟩ (.int .i64 kk)).setCell ⟨w.heap.size + 1, 1, none⟩ (.int .i64 nn)).setCell ⟨w.heap.size + 1, 2, none⟩ (.slice va k vcap)) _ _).base (show w.heap.size ≤ w.heap.size + 3 by omega)
         rw [HPL.out, HKK.out, HNN.out]
         have hpt := TyPost.ty (t := .mk kk nn (t.kids.map (Tp.pl true))) (w := w) (a' := va) (cap' := vcap) HALL.out (by show RowK _ _ (.slice va (t.kids.map (Tp.pl true)).length vcap) ks; rw [List.length_map, HM.out]; exact hrw) (by rw [← HKK.out]; exact HI.out.1) (by rw [← HNN.out]; exact HI.out.2)
         exact ⟨va, vcap, by show Ending.returned (.agg #[.int .i64 kk, .int .i64 nn, .slice va k vcap]) = .returned (.agg #[.int .i64 kk, .int .i64 nn, .slice va (t.kids.map (Tp.pl true)).length vcap]); rw [List.length_map, HM.out], hpt, ((HBW.out.setCell (by dsimp only; omega) _).setCell (by dsimp only; omega) _).setCell (by dsimp only; omega) _⟩
set_option maxRecDepth 100000 in
set_option maxHeartbeats 4000000 in
theorem plainF_any : ∀ (n : Nat) (t : T) (a : Option Addr) (cap : Nat) (w : World), Tp.size t ≤ n → Tp.size t ≤ 1000000 → TyAt (LT w.heap.size) w t a cap →
    Calls Try.prog 50 #[tv t a cap, .bool false] w (KidPost (Tp.pl false t) w) := by
  intro n
  induction n with
  | zero => intro t a cap w h; have := Tp.size_pos t; omega
  | succ n ih =>
    intro t a cap w hn hs hty
    have hm10 : t.kids.length ≤ 1000000 := by have := Tp.length_le_sizes t.kids; have := size_kids t; omega
    have hi64 : I64 t.kind ∧ I64 t.num := ⟨hty.1, hty.2.1⟩
    have HI := Lib.hid hi64; clear hi64
    have HN := Lib.hid hn; have HS := Lib.hid hs; have HTY := Lib.hid hty; have IH := Lib.hid ih; clear hn hs hty ih
    obtain ⟨m, hm⟩ : ∃ m, t.kids.length = m := ⟨_, rfl⟩
    obtain ⟨kk, hkk⟩ : ∃ kk, t.kind = kk := ⟨_, rfl⟩
    obtain ⟨nn, hnn⟩ : ∃ kk, t.num = kk := ⟨_, rfl⟩
    unfold tv
    rw [hm] at hm10 ⊢
    rw [hkk, hnn]
    have HM := Lib.hid hm; have HKK := Lib.hid hkk; have HNN := Lib.hid hnn; clear hm hkk hnn
    obtain ⟨W2, hW2⟩ : ∃ W2, (w.alloc (.cells #[.int .i64 kk, .int .i64 nn, .slice a m cap] 24)).alloc (.cells #[.int .i64 0, .int .i64 0, .slice none 0 0] 24) = W2 := ⟨_, rfl⟩
    have hw2 : Below w.heap.size w W2 := by rw [← hW2]; exact ((Below.refl _ _).alloc (Nat.le_refl _) _).alloc (by simp) _
    have hs2 : W2.heap.size = w.heap.size + 2 := by rw [← hW2]; simp
    have hx1 : W2.heap[w.heap.size]? = some (.cells #[.int .i64 kk, .int .i64 nn, .slice a m cap] 24) := by rw [← hW2]; exact box1 _ _ _ _ _
    have hx2 : W2.heap[w.heap.size + 1]? = some (.cells #[.int .i64 0, .int .i64 0, .slice none 0 0] 24) := by rw [← hW2]; exact box2 _ _ _ _ _
    have c0 : W2.cell? ⟨w.heap.size, 0, none⟩ = some (.int .i64 kk) := cell_box hx1 rfl rfl
    have c1 : W2.cell? ⟨w.heap.size, 1, none⟩ = some (.int .i64 nn) := cell_box hx1 rfl rfl
    have c2 : W2.cell? ⟨w.heap.size, 2, none⟩ = some (.slice a m cap) := cell_box hx1 rfl rfl
    have HW2 := Lib.hid hW2; have HB2 := Lib.hid hw2; have HS2 := Lib.hid hs2; have HX1 := Lib.hid hx1; have HX2 := Lib.hid hx2
    clear hW2 hw2 hs2 hx1 hx2
    go_enter Try.func50, Try.ntmps50
    go_upto_region 1 with fail
    rw [HW2.out]
    by_cases h5 : kk = 5
    · have g5 : (kk == 5) = true := by simp [h5]
      have hpl := Tp.pl_dyn (c := false) (HKK.out.trans h5)
      have HPD := Lib.hid hpl
      clear h5 hpl
      go_wp2_with (go_at_call 32; refine (leaf_any 4 W2).mono ?_; rintro e w3 ⟨rfl, hb3⟩; obtain ⟨z0, z1, z2, f0, f1, f2⟩ := zero_three ((hb3.block (w.heap.size + 1) (by have := HS2.out; omega)).trans HX2.out); have HB3 := Lib.hid (HB2.out.tr hb3 (Nat.le_refl _)); clear hb3 c0 c1 c2)
      refine bodyPost_ret (v := .agg #[.int .i64 4, .int .i64 0, .slice none 0 0]) (by simp [results, Try.f50, go_sem, z0, z1, z2]) rfl ?_
      rw [HPD.out]
      exact ⟨none, 0, rfl, leaf_at (show I64 4 from i64_nat (by decide) (by decide)), put3 HB3.out (by omega)⟩
    have g5 : (kk == 5) = false := by simp [h5]
    have HPL := Lib.hid (Tp.pl_node (c := false) (t := t) (by rw [HKK.out]; exact h5) (by rw [HKK.out]; exact fun h => by cases h.2))
    obtain ⟨b6, hb6⟩ : ∃ b, (kk == 6) = b := ⟨_, rfl⟩
    clear h5
    cases b6
    all_goals have g6 := hb6; clear hb6
    all_goals
     go_upto_region 6 with fail
     have hW3 : W2.alloc (.cells #[.int .i64 kk, .int .i64 nn, .slice none 0 0] 24) = ((w.alloc (.cells #[.int .i64 kk, .int .i64 nn, .slice a m cap] 24)).alloc (.cells #[.int .i64 0, .int .i64 0, .slice none 0 0] 24)).alloc (.cells #[.int .i64 kk, .int .i64 nn, .slice none 0 0] 24) := by rw [← HW2.out]
     rw [hW3]
     try rw [HS2.out]
     clear hW3 c0 c1 c2 g5 g6
     go_wp2_with fail
     have hb0 : Below w.heap.size w (((w.alloc (.cells #[.int .i64 kk, .int .i64 nn, .slice a m cap] 24)).alloc (.cells #[.int .i64 0, .int .i64 0, .slice none 0 0] 24)).alloc (.cells #[.int .i64 kk, .int .i64 nn, .slice none 0 0] 24)) := (((Below.refl _ _).alloc (Nat.le_refl _) _).alloc (by simp) _).alloc (by simp <;> omega) _
     have hb1 : (((w.alloc (.cells #[.int .i64 kk, .int .i64 nn, .slice a m cap] 24)).alloc (.cells #[.int .i64 0, .int .i64 0, .slice none 0 0] 24)).alloc (.cells #[.int .i64 kk, .int .i64 nn, .slice none 0 0] 24)).heap[w.heap.size]? = some (.cells #[.int .i64 kk, .int .i64 nn, .slice a m cap] 24) := (Below.heap_alloc _ _ _ (by simp <;> omega)).trans (box1 _ _ _ _ _)
     have hb2 : (((w.alloc (.cells #[.int .i64 kk, .int .i64 nn, .slice a m cap] 24)).alloc (.cells #[.int .i64 0, .int .i64 0, .slice none 0 0] 24)).alloc (.cells #[.int .i64 kk, .int .i64 nn, .slice none 0 0] 24)).heap[w.heap.size + 1]? = some (.cells #[.int .i64 0, .int .i64 0, .slice none 0 0] 24) := (Below.heap_alloc _ _ _ (by simp)).trans (box2 _ _ _ _ _)
     have hb3 : (((w.alloc (.cells #[.int .i64 kk, .int .i64 nn, .slice a m cap] 24)).alloc (.cells #[.int .i64 0, .int .i64 0, .slice none 0 0] 24)).alloc (.cells #[.int .i64 kk, .int .i64 nn, .slice none 0 0] 24)).heap[w.heap.size + 1 + 1]? = some (.cells #[.int .i64 kk, .int .i64 nn, .slice none 0 0] 24) := by
       have := World.alloc_heap_new ((w.alloc (.cells #[.int .i64 kk, .int .i64 nn, .slice a m cap] 24)).alloc (.cells #[.int .i64 0, .int .i64 0, .slice none 0 0] 24)) (.cells #[.int .i64 kk, .int .i64 nn, .slice none 0 0] 24)
       rw [World.size_alloc, World.size_alloc] at this; exact this
     have H0 := Lib.hid (And.intro hb0 (And.intro hb1 (And.intro hb2 hb3)))
     clear hb0 hb1 hb2 hb3
     go_loopg [6] m (fun gk i wr => ∃ (k : Nat) (ks : List Ke) (v : Value), k ≤ m ∧ i = .int .i64 k ∧ ks.map Ke.t = (t.kids.take k).map (Tp.pl false) ∧ RowK (w.heap.size + 3) wr v ks ∧ wr.heap[w.heap.size]? = some (.cells #[.int .i64 kk, .int .i64 nn, .slice a m cap] 24) ∧ wr.heap[w.heap.size + 1]? = some (.cells #[.int .i64 0, .int .i64 0, .slice none 0 0] 24) ∧
       wr.heap[w.heap.size + 1 + 1]? = some (.cells #[.int .i64 kk, .int .i64 nn, v] 24) ∧ Below w.heap.size w wr ∧ w.heap.size + 3 ≤ wr.heap.size ∧ gk = m - k)
     case atStart => exact ⟨0, [], _, Nat.zero_le _, rfl, by simp, RowK.nil _ _, H0.out.2.1, H0.out.2.2.1, H0.out.2.2.2, H0.out.1, by simp, rfl⟩
     case round =>
       obtain ⟨k, ks, v, hk, rfl, hks, hrow, hbt, hbr, hbu, hbw, hsz, rfl⟩ := hrel
       have hkl : ks.length = k := by have := congrArg List.length hks; rw [List.length_map, List.length_map, List.length_take, HM.out] at this; omega
       obtain ⟨va, vcap, rfl⟩ := own_shapeT hrow.own
       rw [hkl] at hrow hbu
       have cu : wr.cell? ⟨w.heap.size + 1 + 1, 2, none⟩ = some (.slice va k vcap) := cell_box hbu rfl rfl
       have cu0 : wr.cell? ⟨w.heap.size + 1 + 1, 0, none⟩ = some (.int .i64 kk) := cell_box hbu rfl rfl
       have cu1 : wr.cell? ⟨w.heap.size + 1 + 1, 1, none⟩ = some (.int .i64 nn) := cell_box hbu rfl rfl
       have cr0 : wr.cell? ⟨w.heap.size + 1, 0, none⟩ = some (.int .i64 0) := cell_box hbr rfl rfl
       have cr1 : wr.cell? ⟨w.heap.size + 1, 1, none⟩ = some (.int .i64 0) := cell_box hbr rfl rfl
       have cr2 : wr.cell? ⟨w.heap.size + 1, 2, none⟩ = some (.slice none 0 0) := cell_box hbr rfl rfl
       have fr0 : ∀ j, wr.frozen? ⟨w.heap.size + 1, j, none⟩ = false := fun j => by simp [World.frozen?, hbr]
       have FR := Lib.hid fr0; clear fr0
       have fr0 := FR.out 0; have fr1 := FR.out 1; have fr2 := FR.out 2
       have ct : wr.cell? ⟨w.heap.size, 2, none⟩ = some (.slice a m cap) := cell_box hbt rfl rfl
       have HKS := Lib.hid hks; have HROW := Lib.hid hrow; have HBT := Lib.hid hbt; have HBR := Lib.hid hbr; have HBU := Lib.hid hbu; have HBW := Lib.hid hbw; have HSZ := Lib.hid hsz; have HKL := Lib.hid hkl
       clear hks hrow hbt hbr hbu hbw hsz hkl H0
       by_cases hlt : k < m
       · have hkk : k < t.kids.length := by rw [HM.out]; exact hlt
         obtain ⟨b, o, xa, xcap, rfl, hbn, hx, x0, x1, x2⟩ := kid_at HTY.out HBW.out (Nat.le_refl _) hkk
         have hsk := size_kid t.kids k hkk
         have hss := size_kids t
         have htk : t.kids.take (k + 1) = t.kids.take k ++ [t.kids[k]] := List.take_succ_eq_append_getElem hkk
         have hcall := IH.out t.kids[k] xa xcap wr.drew (by have := HN.out; omega) (by have := HS.out; omega) (hx.below ((Below.refl wr.heap.size wr).drew) (fun _ h => h) (fun _ h => h))
         obtain ⟨y, hy'⟩ : ∃ x, t.kids[k] = x := ⟨_, rfl⟩
         rw [hy'] at x0 x1 x2 hcall htk
         obtain ⟨xk, xn, xm, hvy⟩ := TV.mk y
         rw [hvy.1] at x0; rw [hvy.2.1] at x1; rw [hvy.2.2] at x2
         rw [tv_of hvy] at hcall
         obtain ⟨x, hx'⟩ : ∃ x, Tp.pl false y = x := ⟨_, rfl⟩
         rw [hx'] at hcall
         obtain ⟨rk, rn, rm, hvr⟩ := TV.mk x
         have hcall2 : Calls Try.prog 50 #[.agg #[.int .i64 xk, .int .i64 xn, .slice xa xm xcap], .bool false] wr.drew (PlPost x rk rn rm wr) := by
           refine hcall.mono fun e w' hp => ?_
           obtain ⟨a2, c2, h1, h2, h6⟩ := hp
           exact ⟨a2, c2, by rw [h1, tv_of hvr], h2, h6.os, h6.tape, h6.output, h6.size, h6.block⟩
         have HC := Lib.hid hcall2; have HTK := Lib.hid htk; have HVR := Lib.hid hvr; have HXE := Lib.hid hx'; have HYE := Lib.hid hy'
         clear hcall hcall2 htk hx hx' hy' hsk hss hvy hvr
         obtain ⟨i0, hi, hz0, hz1, hz2⟩ := info_parts info_ty
         have hb40 := b40 (Nat.le_trans (Nat.le_of_lt hlt) hm10)
         have HB40 := Lib.hid hb40; clear hb40
         go_wp2_with fail
         go_region_law (first
           | (refine step_call ?_ 50 #[.tmp 36, .tmp 37] #[24, 4] ?_ #[.agg #[.int .i64 xk, .int .i64 xn, .slice xa xm xcap], .bool false] ?_ ?_ HC.out plPost_ret ?_
              (· rfl)
              (· rfl)
              (· simp [Act.eval])
              (· exact enters_of Try.func50 (by kernel_rfl) rfl)
              rintro _ w6 ⟨a2, c2, h1, hty2, hb6⟩
              injection h1 with h1
              subst h1
              have hz6 : wr.heap.size ≤ w6.heap.size := hb6.size
              have cu6 : w6.cell? ⟨w.heap.size + 1 + 1, 2, none⟩ = some (.slice va k vcap) := cell_box HBU.out (hb6.block _ (Nat.lt_of_lt_of_le (by omega) HSZ.out)) rfl
              have lz6 : w.heap.size + 1 + 1 < w6.heap.size := cell_lt cu6
              have HTY2 := Lib.hid hty2
              have HB6 := Lib.hid hb6
              have HZ6 := Lib.hid hz6
              clear hty2 hb6 hz6)
           | (refine step_append_lies _ ?_ (.tmp 31) (.tmp 39) 22 ?_ (w.heap.size + 3) 24 i0 (.agg #[.int .i64 0, .int .i64 0, .slice none 0 0]) 3 40 Try.underlying22 hi hz0 hz1 hz2 ?_ ?_ (.slice va k vcap) k (rowCells ks) ?_ ?_ ⟨w6.heap.size, 0, none⟩ 1 1 [.int .i64 rk, .int .i64 rn, .slice a2 rm c2] ?_ ?_ ?_ ?_ ?_ ?_ ?_ ?_ (w6.heap.size + 1) ?_ ?_
              (· rfl)
              (· rfl)
              (· rfl)
              (· decide)
              (· rfl)
              (· exact ((own_len (HROW.out.keep (fun y _ hy => HB6.out.block y hy) HZ6.out).own HKL.out).alloc _))
              (· rfl)
              (· rfl)
              (· exact World.news_of_block (World.alloc_heap_new w6 _))
              (· exact three_one _ _ _ _ _)
              (· decide)
              (· exact HB40.out.2)
              (· exact HB40.out.1)
              (· exact Nat.le_trans HSZ.out (Nat.le_trans HZ6.out (by simp)))
              (· simp)
              intro g2 cap2 w7 own7 gr7 ly7 _
              have lu7 := far_own gr7 HB6.out HBU.out HROW.out.own (by omega)
              have cu7 : w7.cell? ⟨w.heap.size + 1 + 1, 2, none⟩ = some (.slice va k vcap) := cell_box lu7 rfl rfl
              have fu7 : w7.frozen? ⟨w.heap.size + 1 + 1, 2, none⟩ = false := by simp [World.frozen?, lu7]
              have OW7 := Lib.hid own7
              have GR7 := Lib.hid gr7
              have LY7 := Lib.hid ly7
              have LU7 := Lib.hid lu7
              clear own7 gr7 ly7 lu7))
         all_goals
           have hrow7 := HROW.out.push HKL.out (e := ⟨x, a2, c2⟩) (fun y _ hy => HB6.out.block y hy) HZ6.out HSZ.out HTY2.out (by simp only [keCells, HVR.out.1, HVR.out.2.1, HVR.out.2.2]; exact OW7.out) GR7.out LY7.out
           have lt7 := far_own GR7.out HB6.out HBT.out HROW.out.own (by omega)
           have lr7 := far_own GR7.out HB6.out HBR.out HROW.out.own (by omega)
           have hb7 : Below w.heap.size w w7 := (HBW.out.trans (HB6.out.mono HBW.out.size)).trans ((((Below.refl w.heap.size w6).alloc (Nat.le_trans HBW.out.size HZ6.out) _)).grown GR7.out (by rw [World.size_alloc]; have := HBW.out.size; have := HZ6.out; omega) (fun y hy => by have := (HROW.out.own.lt y hy).1; omega))
           have hz7 : w.heap.size + 3 ≤ w7.heap.size := by have h1 := GR7.out.size; rw [World.size_alloc] at h1; have h2 := HZ6.out; have h3 := HSZ.out; omega
           have R7 := Lib.hid hrow7; have LT7 := Lib.hid lt7; have LR7 := Lib.hid lr7; have HB7 := Lib.hid hb7; have HZ7 := Lib.hid hz7
           clear hrow7 lt7 lr7 hb7 hz7
           go_wp2_with fail
           go_roundg (m - (k + 1))
           case measure => omega
           case rel =>
             refine ⟨k + 1, ks ++ [⟨x, a2, c2⟩], _, by omega, by go_num, ?_, R7.out.keep (fun y hy _ => Below.heap_setCell _ _ _ y (by dsimp only; omega)) (by rw [size_setCell]; exact Nat.le_refl _), ?_, ?_, set2 LU7.out, HB7.out.setCell (by dsimp only; omega) _, by rw [size_setCell]; exact HZ7.out, rfl⟩
             · rw [List.map_append, HKS.out, HTK.out, List.map_append, ← HXE.out, ← HYE.out]; rfl
             · exact (Below.heap_setCell _ _ _ _ (by dsimp only; omega)).trans LT7.out
             · exact (Below.heap_setCell _ _ _ _ (by dsimp only; omega)).trans LR7.out
       · obtain rfl : k = m := by omega
         have hall : ks.map Ke.t = t.kids.map (Tp.pl false) := by rw [HKS.out, List.take_of_length_le (by rw [HM.out]; exact Nat.le_refl _)]
         have HALL := Lib.hid hall; clear hall
         have HSW := Lib.hid (show w.heap.size ≤ wr.heap.size from HBW.out.size)
         go_wp2_with fail
         refine bodyPost_ret (v := .agg #[.int .i64 kk, .int .i64 nn, .slice va k vcap]) (by simp [results, Try.f50, go_sem, cr0, cr1, cr2]) rfl ?_
         have hrw := (HROW.out.keep (fun y hy _ => (Below.heap_setCell _ _ _ y (by dsimp only; omega)).trans ((Below.heap_setCell _ _ _ y (by dsimp only; omega)).trans (Below.heap_setCell _ _ _ y (by dsimp only; omega)))) (by rw [size_setCell, size_setCell, size_setCell]; exact Nat.le_refl _) : RowK (w.heap.size + 3) (((wr.setCell ⟨w.heap.size + 1, 0, none⟩ (.int .i64 kk)).setCell ⟨w.heap.size + 1, 1, none⟩ (.int .i64 nn)).setCell ⟨w.heap.size + 1, 2, none⟩ (.slice va k vcap)) _ _).base (show w.heap.size ≤ w.heap.size + 3 by omega)
         rw [HPL.out, HKK.out, HNN.out]
         have hpt := TyPost.ty (t := .mk kk nn (t.kids.map (Tp.pl false))) (w := w) (a' := va) (cap' := vcap) HALL.out (by show RowK _ _ (.slice va (t.kids.map (Tp.pl false)).length vcap) ks; rw [List.length_map, HM.out]; exact hrw) (by rw [← HKK.out]; exact HI.out.1) (by rw [← HNN.out]; exact HI.out.2)
         exact ⟨va, vcap, by show Ending.returned (.agg #[.int .i64 kk, .int .i64 nn, .slice va k vcap]) = .returned (.agg #[.int .i64 kk, .int .i64 nn, .slice va (t.kids.map (Tp.pl false)).length vcap]); rw [List.length_map, HM.out], hpt, ((HBW.out.setCell (by dsimp only; omega) _).setCell (by dsimp only; omega) _).setCell (by dsimp only; omega) _⟩
theorem plain_any (cl : Bool) (t : T) (a : Option Addr) (cap : Nat) (w : World) (hs : Tp.size t ≤ 1000000) (hty : TyAt (LT w.heap.size) w t a cap) : Calls Try.prog 50 #[tv t a cap, .bool cl] w (KidPost (Tp.pl cl t) w) := by
  cases cl with
  | true => exact plainT_any _ t a cap w (Nat.le_refl _) hs hty
  | false => exact plainF_any _ t a cap w (Nat.le_refl _) hs hty
end Go.Proofs.Ytncdbbjkafgphaa
namespace Go.Proofs.Ytncdbbjkafgphaa
open Go Go.RowKit
open Tp (T Bd)

/-- A bind that a call has built. -/
structure BKe where
  n : Int
  t : T
  a : Option Addr
  cap : Nat
def bkCells (e : BKe) : List Value := [.int .i64 e.n, .int .i64 e.t.kind, .int .i64 e.t.num, .slice e.a e.t.kids.length e.cap]
def bRow (ks : List BKe) : List Value := ks.flatMap bkCells
theorem bRow_length : ∀ S : List BKe, (bRow S).length = S.length * 4
  | [] => rfl
  | e :: r => by
    have := bRow_length r
    simp only [bRow, List.flatMap_cons, List.length_append, List.length_cons, bkCells, List.length_nil] at this ⊢
    omega
theorem bRow_snoc (S : List BKe) (e : BKe) : bRow (S ++ [e]) = bRow S ++ bkCells e := by simp [bRow]
theorem bRow_at : ∀ (S : List BKe) (i : Nat) (h : i < S.length) (j : Nat), j < 4 → (bRow S)[i * 4 + j]? = (bkCells S[i])[j]?
  | [], i, h, _, _ => by simp at h
  | t :: r, 0, h, j, hj => by
    have e : bRow (t :: r) = bkCells t ++ bRow r := by simp [bRow]
    rw [e, Nat.zero_mul, Nat.zero_add, List.getElem?_append_left (by simp [bkCells]; omega)]; rfl
  | t :: r, i + 1, h, j, hj => by
    have e : bRow (t :: r) = bkCells t ++ bRow r := by simp [bRow]
    rw [e, List.getElem?_append_right (by simp [bkCells]; omega)]
    have ih := bRow_at r i (by simpa using h) j hj
    rw [show (i + 1) * 4 + j - (bkCells t).length = i * 4 + j from by simp [bkCells]; omega, ih]; rfl
/-- A row of binds of the call's own. -/
structure RowBd (B : Nat) (w : World) (v : Value) (ks : List BKe) : Prop where
  own : w.ownsRow B 44 4 v ks.length (bRow ks)
  each : ∀ e ∈ ks, TyAt (Others B w v) w e.t e.a e.cap
theorem RowBd.nil (B : Nat) (w : World) : RowBd B w (.slice none 0 0) [] := ⟨World.ownsRow_nil _ _ _ _, fun _ h => by cases h⟩
/-- What lies as it lay, and a row of the call's own. -/
theorem RowBd.keep {B : Nat} {w w' : World} {v : Value} {ks : List BKe} (h : RowBd B w v ks) (hs : ∀ k, B ≤ k → k < w.heap.size → w'.heap[k]? = w.heap[k]?) (hz : w.heap.size ≤ w'.heap.size) : RowBd B w' v ks :=
  ⟨own_same h.own fun g hg => hs g (h.own.lt g hg).1 (h.own.lt g hg).2, fun e he => ty_same (fun k hk => hs k hk.1 hk.2.1) (fun _ hk => ⟨hk.1, Nat.lt_of_lt_of_le hk.2.1 hz, hk.2.2⟩) (h.each e he)⟩
theorem RowBd.base {B B' : Nat} {w : World} {v : Value} {ks : List BKe} (h : RowBd B w v ks) (hB : B' ≤ B) : RowBd B' w v ks :=
  ⟨own_base' h.own hB, fun e he => ty_same (fun _ _ => rfl) (fun _ hk => ⟨Nat.le_trans hB hk.1, hk.2.1, hk.2.2⟩) (h.each e he)⟩
/-- A kid more: behind append. -/
theorem RowBd.push {B n : Nat} {w w1 w2 : World} {o : Obj} {g2 cap2 : Nat} {v : Value} {ks : List BKe} {e : BKe} (h : RowBd B w v ks) (hn : ks.length = n) (hb : ∀ k, B ≤ k → k < w.heap.size → w1.heap[k]? = w.heap[k]?) (hz : w.heap.size ≤ w1.heap.size) (hB : B ≤ w.heap.size)
    (he : TyAt (fun b => w.heap.size ≤ b ∧ b < w1.heap.size) w1 e.t e.a e.cap) (hown : w2.ownsRow B 44 4 (.slice (some ⟨g2, 0, none⟩) (n + 1) cap2) (n + 1) (bRow ks ++ bkCells e)) (hg : (w1.alloc o).grownBy w2 v.ownBlock) (hl : v.ownBlock = some g2 ∨ g2 = w1.heap.size + 1) :
    RowBd B w2 (.slice (some ⟨g2, 0, none⟩) (n + 1) cap2) (ks ++ [e]) := by
  subst hn
  have hsz : w1.heap.size < w2.heap.size := by have := hg.size; rw [World.size_alloc] at this; omega
  have kp : ∀ k, k < w1.heap.size → v.ownBlock ≠ some k → w2.heap[k]? = w1.heap[k]? := fun k hk hn => (hg.block k (by rw [World.size_alloc]; omega) (fun e => hn e.symm)).trans (Below.heap_alloc _ _ _ hk)
  have vlt : ∀ g, v.ownBlock = some g → g < w.heap.size := fun g hg => (h.own.lt g hg).2
  refine ⟨by rw [bRow_snoc, List.length_append]; exact hown, fun e' he' => ?_⟩
  rcases List.mem_append.1 he' with he' | he'
  · refine ty_same (fun k hk => (kp k (by have := hk.2.1; omega) hk.2.2).trans (hb k hk.1 hk.2.1)) (fun k hk => ⟨hk.1, by have := hk.2.1; omega, fun x => ?_⟩) (h.each e' he')
    injection x with x
    rcases hl with y | y
    · exact hk.2.2 (by rw [y, ← x])
    · have := hk.2.1; dsimp only at x; omega
  · obtain rfl := List.mem_singleton.1 he'
    refine ty_same (fun k hk => kp k hk.2 (fun x => by have := vlt k x; have := hk.1; omega)) (fun k hk => ⟨by have := hk.1; omega, by have := hk.2; omega, fun x => ?_⟩) he
    injection x with x
    dsimp only at x
    rcases hl with y | y
    · have := vlt g2 y; have := hk.1; omega
    · have := hk.2; omega
/-- A row of binds that is handed in. -/
def BindsAt (G : Nat → Prop) (w : World) (L : List Bd) (a : Option Addr) : Prop := ∀ i (h : i < L.length), ∃ b o xa xc, a = some ⟨b, o, none⟩ ∧ G b ∧ TyAt G w L[i].2 xa xc ∧ w.cell? ⟨b, o + i * 4, none⟩ = some (.int .i64 L[i].1) ∧ w.cell? ⟨b, o + i * 4 + 1, none⟩ = some (.int .i64 L[i].2.kind) ∧ w.cell? ⟨b, o + i * 4 + 2, none⟩ = some (.int .i64 L[i].2.num) ∧ w.cell? ⟨b, o + i * 4 + 3, none⟩ = some (.slice xa L[i].2.kids.length xc)
theorem BindsAt.later {n : Nat} {w w' : World} {L : List Bd} {a : Option Addr} (h : BindsAt (LT n) w L a) (hb : Below n w w') : BindsAt (LT n) w' L a := fun i hi => by
  obtain ⟨b, o, xa, xc, e, hg, ht, h0, h1, h2, h3⟩ := h i hi
  have hc : ∀ j, w'.cell? ⟨b, j, none⟩ = w.cell? ⟨b, j, none⟩ := fun j => World.cell?_of_block (a := ⟨b, j, none⟩) (hb.block b hg)
  exact ⟨b, o, xa, xc, e, hg, ht.below hb (fun _ h => h) (fun _ h => h), by rw [hc]; exact h0, by rw [hc]; exact h1, by rw [hc]; exact h2, by rw [hc]; exact h3⟩
theorem RowBd.binds {B : Nat} {w : World} {a : Option Addr} {n cap : Nat} {ks : List BKe} (h : RowBd B w (.slice a n cap) ks) : n = ks.length ∧ n ≤ cap ∧ cap ≤ maxLen ∧ BindsAt (LT w.heap.size) w (ks.map fun e => (e.n, e.t)) a := by
  obtain ⟨a', cap', e⟩ := own_shapeT h.own
  injection e with e1 e2 e3
  rcases h.own.2 with ⟨h1, h2⟩ | ⟨g, cp, cur, h1, h2, h3, h4, h5, _⟩
  · have hk : ks = [] := List.eq_nil_of_length_eq_zero h2
    injection h1 with q1 q2 q3
    subst q1 q3
    refine ⟨e2, by omega, Nat.zero_le _, fun i hi => by rw [hk] at hi; simp at hi⟩
  · injection h1 with q1 q2 q3
    subst q1
    subst q3
    refine ⟨e2, by omega, h5, fun i hi => ?_⟩
    have hi' : i < ks.length := by simpa using hi
    have hc := h.own.cells (g := g) rfl
    have k : ∀ j, j < 4 → ∀ u, (bkCells ks[i])[j]? = some u → w.cell? ⟨g, 0 + i * 4 + j, none⟩ = some u := fun j hj u hu => by
      have := hc (i * 4 + j) u (by rw [bRow_at ks i hi' j hj]; exact hu)
      rw [add_flat] at this
      rw [show 0 + i * 4 + j = 0 + (i * 4 + j) from by omega]; exact this
    have ht := ty_same (fun _ _ => rfl) (fun k hk => (hk.2.1 : LT w.heap.size k)) (h.each ks[i] (List.getElem_mem hi'))
    have e0 : (ks.map fun e => ((e.n, e.t) : Bd))[i] = (ks[i].n, ks[i].t) := by simp
    rw [e0]
    exact ⟨g, 0, ks[i].a, ks[i].cap, rfl, (Array.getElem?_eq_some_iff.1 h3).1, ht, k 0 (by omega) _ rfl, k 1 (by omega) _ rfl, k 2 (by omega) _ rfl, k 3 (by omega) _ rfl⟩
/-- What is put for the i-th variable. -/
def yAt (l : List T) (c : Bool) (i : Nat) : T := if l = [] then .mk 1 0 [] else Tp.pl c (l.getD (i % l.length) (.mk 1 0 []))
def statL (vs : List Int) (l : List T) (c : Bool) (k : Nat) : List Bd := (List.range k).map fun i => (vs.getD i 0, yAt l c i)
theorem statL_succ (vs : List Int) (l : List T) (c : Bool) (k : Nat) : statL vs l c (k + 1) = statL vs l c k ++ [(vs.getD k 0, yAt l c k)] := by
  unfold statL; rw [List.range_succ, List.map_append]; rfl
theorem statL_keys (vs : List Int) (l : List T) (c : Bool) : (statL vs l c vs.length).map Prod.fst = vs := by
  unfold statL
  rw [List.map_map]
  refine List.ext_getElem (by simp) fun i h1 h2 => ?_
  simp only [List.getElem_map, List.getElem_range, Function.comp_apply]
  rw [List.getD_eq_getElem?_getD, List.getElem?_eq_getElem h2]; rfl
theorem yAt_size {l : List T} {c : Bool} (i : Nat) (h : ∀ t ∈ l, Tp.size t ≤ 1000000) : Tp.size (yAt l c i) ≤ 1000000 := by
  unfold yAt
  split
  · simp [Tp.size, Tp.sizes]
  · rename_i hl
    have hi : i % l.length < l.length := Nat.mod_lt _ (List.length_pos_iff.2 hl)
    rw [List.getD_eq_getElem?_getD, List.getElem?_eq_getElem hi]
    exact Nat.le_trans (Tp.pl_size c _) (h _ (List.getElem_mem hi))
theorem info_bd : (Try.prog.info? 44).map (fun i => (i.zero, i.size, i.bytes)) = some (some (.agg #[.int .i64 0, .int .i64 0, .int .i64 0, .slice none 0 0]), 4, 48) := by kernel_rfl
theorem four_one (d k n : Int) (a : Option Addr) (m c : Nat) : ∀ u ∈ [Value.int .i64 d, .int .i64 k, .int .i64 n, .slice a m c], u.oneCell' = true := by
  intro u hu
  simp only [List.mem_cons, List.not_mem_nil, or_false] at hu
  rcases hu with rfl | rfl | rfl | rfl <;> rfl
theorem b48s {r : Nat} (h : r ≤ 2000000) : (r + 1) * 48 ≤ 140737488355328 ∧ r + 1 ≤ maxLen := by unfold maxLen; omega
theorem rem_nat {i n : Nat} (hn : 0 < n) (hm : n ≤ maxLen) : (i : Int).tmod (n : Int) = ((i % n : Nat) : Int) ∧ wrap64 ((i % n : Nat) : Int) = ((i % n : Nat) : Int) ∧ ((n : Int) == 0) = false ∧ ¬ (n : Int) = 0 := by
  have h1 := Nat.mod_lt i hn
  refine ⟨by rw [Int.tmod_eq_emod_of_nonneg (by omega)]; rfl, by unfold wrap64; unfold maxLen at hm; omega, by simp; omega, by omega⟩
theorem below_push3 {n : Nat} {A B C : World} {o : Obj} {row : Option Nat} (h : Below n A B) (hg : (B.alloc o).grownBy C row) (hrow : ∀ k, row = some k → n ≤ k) (hn : n ≤ B.heap.size) : Below n A C :=
  (h.alloc hn o).grown hg (by rw [World.size_alloc]; omega) hrow
theorem wrap_kS {k : Nat} (h : k ≤ 1000000) : Value.int .i64 (wrap64 ((k : Int) + 1)) = .int .i64 ((k + 1 : Nat) : Int) := by
  rw [show wrap64 ((k : Int) + 1) = ((k + 1 : Nat) : Int) from by unfold wrap64; omega]
def StPost (L : List Bd) (w : World) (e : Ending) (w' : World) : Prop := ∃ v bs, e = .returned v ∧ RowBd w.heap.size w' v bs ∧ bs.map (fun e => ((e.n, e.t) : Bd)) = L ∧ Below w.heap.size w w'
set_option maxRecDepth 100000 in
set_option maxHeartbeats 8000000 in
theorem lstatic_any (cl : Bool) (t : T) (a : Option Addr) (cap : Nat) (l : List T) (la : Option Addr) (lc : Nat) (w : World) (hs : Tp.size t ≤ 1000000) (hty : TyAt (LT w.heap.size) w t a cap) (hll : l.length ≤ maxLen) (hls : ∀ t ∈ l, Tp.size t ≤ 1000000) (hk : KidsAt (LT w.heap.size) w l la) :
    Calls Try.prog 27 #[tv t a cap, .slice la l.length lc, .bool cl] w (StPost (statL (Tp.vars t []) l cl (Tp.vars t []).length) w) := by
  obtain ⟨k0, n0, m0, hv⟩ := TV.mk t
  rw [tv_of hv]
  obtain ⟨W1, hW1⟩ : ∃ W, w.alloc (.cells #[.int .i64 k0, .int .i64 n0, .slice a m0 cap] 24) = W := ⟨_, rfl⟩
  obtain ⟨hbx, hb1⟩ : BoxT W1 w.heap.size t k0 n0 m0 a cap ∧ Below w.heap.size w W1 := box_new hv hty hW1
  have hvs := rvarsall_any t a cap W1 hs hbx.ty
  rw [tv_of hv] at hvs
  have hvl : (Tp.vars t []).length ≤ 1000000 := by have := Tp.vlenC t []; simp only [List.length_nil] at this; omega
  obtain ⟨vs, hvs'⟩ : ∃ z, Tp.vars t [] = z := ⟨_, rfl⟩
  rw [hvs'] at hvs hvl ⊢
  obtain ⟨m, hm⟩ : ∃ z, vs.length = z := ⟨_, rfl⟩
  obtain ⟨n, hn⟩ : ∃ z, l.length = z := ⟨_, rfl⟩
  rw [hm] at hvl ⊢
  rw [hn] at hll ⊢
  have hnz : (l = []) ↔ n = 0 := by rw [← hn]; exact ⟨fun h => by rw [h]; rfl, List.eq_nil_of_length_eq_zero⟩
  have HVS := Lib.hid hvs; have HB1 := Lib.hid hb1; have HBX := Lib.hid hbx; have HM := Lib.hid hm; have HN := Lib.hid hn; have HK := Lib.hid hk; have HLS := Lib.hid hls; have HVL := Lib.hid hvl; have HLL := Lib.hid hll; have HNZ := Lib.hid hnz; have HW1 := Lib.hid hW1
  clear hvs hb1 hbx hm hn hk hls hvl hll hnz hW1 hs hty hv hvs'
  obtain ⟨c0, c1, c2⟩ := HBX.out.cells
  go_enter Try.func27, Try.ntmps27
  go_upto_region 1 with fail
  rw [HW1.out]
  go_wp2_with (go_at_call 29; refine HVS.out.mono ?_; clear c0 c1 c2; rintro e w2 ⟨v, rfl, hown, hb2⟩; obtain ⟨va, vc, rfl⟩ := own_shapeT hown; rw [HM.out] at hown ⊢; have HVO := Lib.hid hown; have HB2 := Lib.hid (HB1.out.tr hb2 (Nat.le_refl _)); have HB12 := Lib.hid hb2; clear hown hb2)
  go_loopg [7, 9] m (fun gk v i wr => ∃ (k : Nat) (bs : List BKe), k ≤ m ∧ i = .int .i64 (k : Int) ∧ bs.map (fun e => ((e.n, e.t) : Bd)) = statL vs l cl k ∧ RowBd w2.heap.size wr v bs ∧ Below w2.heap.size w2 wr ∧ gk = m - k)
  case atStart => exact ⟨0, [], Nat.zero_le _, rfl, rfl, ⟨World.ownsRow_nil _ _ _ _, fun _ h => by cases h⟩, Below.refl _ _, rfl⟩
  case round =>
    obtain ⟨k, bs, hkm, rfl, hbs, hrow, hb, rfl⟩ := hrel
    obtain ⟨ra, rc, rfl⟩ := own_shapeT hrow.own
    have hbl : bs.length = k := by have := congrArg List.length hbs; simpa [statL] using this
    rw [hbl] at hrow ⊢
    have HBS := Lib.hid hbs; have HROW := Lib.hid hrow; have HB := Lib.hid hb; have HBL := Lib.hid hbl
    clear hbs hrow hb hbl
    by_cases hlt : k < m
    · have hkv : k < vs.length := by rw [HM.out]; exact hlt
      have hlow : Below w.heap.size w wr := HB2.out.trans (HB.out.mono HB2.out.size)
      have HLOW := Lib.hid hlow; clear hlow
      have hm2 : (m : Int) ≤ 9223372036854775807 := by have := HVL.out; omega
      have hn2 : (n : Int) ≤ 9223372036854775807 := by have := HLL.out; unfold maxLen at this; omega
      by_cases hn0 : 0 < n
      · obtain ⟨j, hj, hjk⟩ : ∃ j : Nat, (k : Int) % (n : Int) = (j : Int) ∧ k % n = j := ⟨k % n, rfl, rfl⟩
        have hjn : j < n := by rw [← hjk]; exact Nat.mod_lt k hn0
        have HJK := Lib.hid hjk; clear hjk
        have hjl : j < l.length := by rw [HN.out]; exact hjn
        have hj0 : (0 : Int) ≤ (j : Int) := Int.natCast_nonneg j
        have hj1 : (j : Int) < (n : Int) := by omega
        have hj2 : (j : Int) ≤ 9223372036854775807 := by omega
        go_wp2_with (go_at_call 32; refine (leaf_any 1 wr).mono ?_; rintro e w3 ⟨rfl, hb3⟩; have HB3 := Lib.hid hb3; clear hb3)
        rw [hj]
        obtain ⟨W4, hW4⟩ : ∃ W, w3.alloc (.cells #[.int .i64 1, .int .i64 0, .slice none 0 0] 24) = W := ⟨_, rfl⟩
        rw [hW4]
        have hb4 : Below w.heap.size w W4 := by rw [← hW4]; exact (HLOW.out.tr HB3.out (Nat.le_refl _)).alloc (Nat.le_trans HLOW.out.size HB3.out.size) _
        have hbx4 : W4.heap[w3.heap.size]? = some (.cells #[.int .i64 1, .int .i64 0, .slice none 0 0] 24) := by rw [← hW4]; exact World.alloc_heap_new w3 _
        have hk2 : KidsAt (LT W4.heap.size) W4 l la := HK.out.below hb4 (fun _ h => h) (fun b h => Nat.lt_of_lt_of_le h hb4.size)
        obtain ⟨b, o, rfl, hbn, hN⟩ := hk2.first (by omega)
        obtain ⟨xa, xc, hx, x0, x1, x2⟩ := (hN j hjl).ty
        have hxs := HLS.out _ (List.getElem_mem hjl)
        obtain ⟨q, hq⟩ : ∃ q, l[j] = q := ⟨_, rfl⟩
        rw [hq] at hx x0 x1 x2 hxs
        obtain ⟨qk, qn, qm, hqv⟩ := TV.mk q
        rw [hqv.1] at x0; rw [hqv.2.1] at x1; rw [hqv.2.2] at x2
        have hpl := plain_any cl q xa xc W4 hxs hx
        rw [tv_of hqv] at hpl
        have HPL := Lib.hid hpl; have HB4 := Lib.hid hb4; have HBX4 := Lib.hid hbx4; have HW4 := Lib.hid hW4; have HQ := Lib.hid hq
        clear hpl hb4 hbx4 hW4 hk2 hN hx hxs hq hqv
        go_simp
        go_wp2_with (go_at_call 50; refine HPL.out.mono ?_; clear x0 x1 x2; rintro e w5 ⟨a5, c5, rfl, hty5, hb5⟩; obtain ⟨pk, pn, pm, hpv⟩ := TV.mk (Tp.pl cl q); rw [tv_of hpv]; have hbx5 := (hb5.block _ (Array.getElem?_eq_some_iff.1 HBX4.out).1).trans HBX4.out; have r0 : w5.cell? ⟨w3.heap.size, 0, none⟩ = some (.int .i64 1) := cell_box hbx5 rfl rfl; have r1 : w5.cell? ⟨w3.heap.size, 1, none⟩ = some (.int .i64 0) := cell_box hbx5 rfl rfl; have r2 : w5.cell? ⟨w3.heap.size, 2, none⟩ = some (.slice none 0 0) := cell_box hbx5 rfl rfl; have f0 : w5.frozen? ⟨w3.heap.size, 0, none⟩ = false := IsC.frozen ⟨_, _, hbx5⟩; have f1 : w5.frozen? ⟨w3.heap.size, 1, none⟩ = false := IsC.frozen ⟨_, _, hbx5⟩; have f2 : w5.frozen? ⟨w3.heap.size, 2, none⟩ = false := IsC.frozen ⟨_, _, hbx5⟩; have HPV := Lib.hid hpv; have HBX5 := Lib.hid hbx5; have HTY5 := Lib.hid hty5; have HB5 := Lib.hid hb5; clear hty5 hb5 hpv hbx5)
        have hF := box_set3 (v0 := .int .i64 pk) (v1 := .int .i64 pn) (v2 := .slice a5 pm c5) HBX5.out
        have hT := set3_turns w5 w3.heap.size (.int .i64 pk) (.int .i64 pn) (.slice a5 pm c5)
        have hO := fun z (hz : z ≠ w3.heap.size) => set3_other (V := w5) (v0 := .int .i64 pk) (v1 := .int .i64 pn) (v2 := .slice a5 pm c5) hz
        clear r0 r1 r2 f0 f1 f2
        generalize ((w5.setCell ⟨w3.heap.size, 0, none⟩ (.int .i64 pk)).setCell ⟨w3.heap.size, 1, none⟩ (.int .i64 pn)).setCell ⟨w3.heap.size, 2, none⟩ (.slice a5 pm c5) = X at hF hT hO ⊢
        have hz34 : w3.heap.size < W4.heap.size := (Array.getElem?_eq_some_iff.1 HBX4.out).1
        have hb34 : Below wr.heap.size wr W4 := by rw [← HW4.out]; exact HB3.out.alloc HB3.out.size _
        have hb35 : Below wr.heap.size wr w5 := hb34.tr HB5.out (Nat.le_refl _)
        have hbX : Below wr.heap.size wr X := (hT.mono (M' := fun z => wr.heap.size ≤ z) (fun z _ hz => by rw [show z = w3.heap.size from hz]; exact HB3.out.size)).below hb35 (fun _ h => h) hb35.size
        have hzX : w5.heap.size ≤ X.heap.size := (hT.mono (M' := fun _ => True) (fun _ _ _ => trivial)).size
        have htX : TyAt (fun z => wr.heap.size ≤ z ∧ z < X.heap.size) X (Tp.pl cl q) a5 c5 := ty_same (fun z hz => hO z (by have := hz.1; omega)) (fun z hz => ⟨by have := hz.1; have := HB3.out.size; omega, by have := hz.2; omega⟩) HTY5.out
        have hyq : Tp.pl cl q = yAt l cl k := by unfold yAt; rw [if_neg (fun e => by have := HNZ.out.1 e; omega), HN.out, HJK.out, List.getD_eq_getElem?_getD, List.getElem?_eq_getElem hjl, HQ.out]; rfl
        have HHF := Lib.hid hF; have HBX' := Lib.hid hbX; have HTX := Lib.hid htX; have HYQ := Lib.hid hyq
        clear hF hT hO hb34 hb35 hbX hzX htX hyq
        have hbw2 : Below w2.heap.size w2 X := HB.out.tr HBX'.out (Nat.le_refl _)
        have hva : ∃ vb, va = some ⟨vb, 0, none⟩ ∧ vb < w2.heap.size ∧ X.cell? ⟨vb, k, none⟩ = some (.int .i64 vs[k]) := by
          rcases HVO.out.2 with ⟨_, h2⟩ | ⟨g, cp, cur, h1, _⟩
          · omega
          · injection h1 with h1 _ _
            subst h1
            have hg := (HVO.out.lt g rfl).2
            refine ⟨g, rfl, hg, ?_⟩
            have h3 := HVO.out.cells (g := g) rfl k (.int .i64 vs[k]) (by rw [List.getElem?_map, List.getElem?_eq_getElem hkv]; rfl)
            rw [add_flat, Nat.zero_add] at h3
            exact (hbw2.cell (p := ⟨g, k, none⟩) hg).trans h3
        obtain ⟨vb, rfl, hvb, v0⟩ := hva
        have hgd : vs.getD k 0 = vs[k] := by rw [List.getD_eq_getElem?_getD, List.getElem?_eq_getElem hkv]; rfl
        obtain ⟨vk, hvk⟩ : ∃ z, vs[k] = z := ⟨_, rfl⟩
        rw [hvk] at v0 hgd
        have z0 : X.cell? ⟨w3.heap.size, 0, none⟩ = some (.int .i64 pk) := cell_box HHF.out rfl rfl
        have z1 : X.cell? ⟨w3.heap.size, 1, none⟩ = some (.int .i64 pn) := cell_box HHF.out rfl rfl
        have z2 : X.cell? ⟨w3.heap.size, 2, none⟩ = some (.slice a5 pm c5) := cell_box HHF.out rfl rfl
        have hx := HROW.out.keep (w' := X) (fun z _ hz => HBX'.out.block z hz) HBX'.out.size
        have HX := Lib.hid hx.own; have HGD := Lib.hid hgd; have HBW2 := Lib.hid hbw2; have HVB := Lib.hid hvb
        obtain ⟨k48, kml⟩ := b48s (r := k) (by have := HVL.out; omega)
        have B1 := Lib.hid k48; have B2 := Lib.hid kml
        obtain ⟨i0, hi, hz0, hz1, hz2⟩ := info_parts info_bd
        have HNX := Lib.hid (show w2.heap.size ≤ X.heap.size from HBW2.out.size)
        have hk0 : (0 : Int) ≤ (k : Int) := Int.natCast_nonneg k
        have hk1 : (k : Int) < (m : Int) := by omega
        rw [HBL.out] at HX
        clear hx hgd hbw2 k48 kml hvk hvb
        go_region_law (first | (refine step_append_lies _ ?_ (.tmp 32) (.tmp 39) 25 ?_ w2.heap.size 44 i0 (.agg #[.int .i64 0, .int .i64 0, .int .i64 0, .slice none 0 0]) 4 48 Try.underlying25 hi hz0 hz1 hz2 ?_ ?_ (.slice ra k rc) k (bRow bs) ?_ ?_ ⟨X.heap.size, 0, none⟩ 1 1 [.int .i64 vk, .int .i64 pk, .int .i64 pn, .slice a5 pm c5] ?_ ?_ ?_ ?_ ?_ ?_ ?_ ?_ (X.heap.size + 1) ?_ ?_; (· rfl); (· rfl); (· rfl); (· decide); (· rfl); (· exact HX.out.alloc _); (· rfl); (· rfl); (· exact World.news_of_block (World.alloc_heap_new X _)); (· exact four_one _ _ _ _ _ _); (· decide); (· exact B2.out); (· exact B1.out); (· exact Nat.le_trans HNX.out (by simp)); (· simp); intro g1 cap1 w7 own1 gr1 ly1 _))
        all_goals
          have gr1' := undrew gr1
          have hbe := below_push3 (n := w2.heap.size) HBW2.out gr1' (fun z hz => (HX.out.lt z hz).1) HNX.out
          have hnx := HROW.out.push HBL.out (w1 := X) (w2 := w7) (g2 := g1) (cap2 := cap1) (e := ⟨vk, Tp.pl cl q, a5, c5⟩) (fun z _ hz => HBX'.out.block z hz) HBX'.out.size HB.out.size HTX.out (by simp only [bkCells, HPV.out.1, HPV.out.2.1, HPV.out.2.2]; exact own1) gr1' ly1
          have HNXT := Lib.hid hnx; have HBE := Lib.hid hbe
          clear gr1 gr1' ly1 own1 hbe hnx v0 z0 z1 z2 hk0 hk1 hi hz0 hz1 hz2
          go_wp2_with fail
          go_roundg (m - (k + 1))
          case measure => omega
          case rel => exact ⟨k + 1, _, by omega, rfl, by rw [List.map_append, HBS.out, statL_succ, HGD.out, ← HYQ.out]; rfl, HNXT.out, HBE.out, rfl⟩
      · have hn00 : n = 0 := by omega
        subst hn00
        go_wp2_with (go_at_call 32; refine (leaf_any 1 wr).mono ?_; rintro e w3 ⟨rfl, hb3⟩; have HB3 := Lib.hid hb3; clear hb3)
        obtain ⟨X, hX⟩ : ∃ W, w3.alloc (.cells #[.int .i64 1, .int .i64 0, .slice none 0 0] 24) = W := ⟨_, rfl⟩
        rw [hX]
        have hF : X.heap[w3.heap.size]? = some (.cells #[.int .i64 1, .int .i64 0, .slice none 0 0] 24) := by rw [← hX]; exact World.alloc_heap_new w3 _
        have hbX : Below wr.heap.size wr X := by rw [← hX]; exact HB3.out.alloc HB3.out.size _
        have htX : TyAt (fun z => wr.heap.size ≤ z ∧ z < X.heap.size) X (.mk 1 0 []) none 0 := ⟨i64_nat (by decide) (by decide), i64_nat (by decide) (by decide), Nat.le_refl _, Nat.zero_le _, trivial⟩
        have hpv : TV (.mk 1 0 []) 1 0 0 := ⟨rfl, rfl, rfl⟩
        have hyq : T.mk 1 0 [] = yAt l cl k := by unfold yAt; rw [if_pos (HNZ.out.2 (by trivial))]
        have HHF := Lib.hid hF; have HBX' := Lib.hid hbX; have HTX := Lib.hid htX; have HYQ := Lib.hid hyq; have HPV := Lib.hid hpv
        clear hF hbX htX hyq hpv hX
        have hbw2 : Below w2.heap.size w2 X := HB.out.tr HBX'.out (Nat.le_refl _)
        have hva : ∃ vb, va = some ⟨vb, 0, none⟩ ∧ vb < w2.heap.size ∧ X.cell? ⟨vb, k, none⟩ = some (.int .i64 vs[k]) := by
          rcases HVO.out.2 with ⟨_, h2⟩ | ⟨g, cp, cur, h1, _⟩
          · omega
          · injection h1 with h1 _ _
            subst h1
            have hg := (HVO.out.lt g rfl).2
            refine ⟨g, rfl, hg, ?_⟩
            have h3 := HVO.out.cells (g := g) rfl k (.int .i64 vs[k]) (by rw [List.getElem?_map, List.getElem?_eq_getElem hkv]; rfl)
            rw [add_flat, Nat.zero_add] at h3
            exact (hbw2.cell (p := ⟨g, k, none⟩) hg).trans h3
        obtain ⟨vb, rfl, hvb, v0⟩ := hva
        have hgd : vs.getD k 0 = vs[k] := by rw [List.getD_eq_getElem?_getD, List.getElem?_eq_getElem hkv]; rfl
        obtain ⟨vk, hvk⟩ : ∃ z, vs[k] = z := ⟨_, rfl⟩
        rw [hvk] at v0 hgd
        have z0 : X.cell? ⟨w3.heap.size, 0, none⟩ = some (.int .i64 1) := cell_box HHF.out rfl rfl
        have z1 : X.cell? ⟨w3.heap.size, 1, none⟩ = some (.int .i64 0) := cell_box HHF.out rfl rfl
        have z2 : X.cell? ⟨w3.heap.size, 2, none⟩ = some (.slice none 0 0) := cell_box HHF.out rfl rfl
        have hx := HROW.out.keep (w' := X) (fun z _ hz => HBX'.out.block z hz) HBX'.out.size
        have HX := Lib.hid hx.own; have HGD := Lib.hid hgd; have HBW2 := Lib.hid hbw2; have HVB := Lib.hid hvb
        obtain ⟨k48, kml⟩ := b48s (r := k) (by have := HVL.out; omega)
        have B1 := Lib.hid k48; have B2 := Lib.hid kml
        obtain ⟨i0, hi, hz0, hz1, hz2⟩ := info_parts info_bd
        have HNX := Lib.hid (show w2.heap.size ≤ X.heap.size from HBW2.out.size)
        have hk0 : (0 : Int) ≤ (k : Int) := Int.natCast_nonneg k
        have hk1 : (k : Int) < (m : Int) := by omega
        rw [HBL.out] at HX
        clear hx hgd hbw2 k48 kml hvk hvb
        go_region_law (first | (refine step_append_lies _ ?_ (.tmp 32) (.tmp 39) 25 ?_ w2.heap.size 44 i0 (.agg #[.int .i64 0, .int .i64 0, .int .i64 0, .slice none 0 0]) 4 48 Try.underlying25 hi hz0 hz1 hz2 ?_ ?_ (.slice ra k rc) k (bRow bs) ?_ ?_ ⟨X.heap.size, 0, none⟩ 1 1 [.int .i64 vk, .int .i64 1, .int .i64 0, .slice none 0 0] ?_ ?_ ?_ ?_ ?_ ?_ ?_ ?_ (X.heap.size + 1) ?_ ?_; (· rfl); (· rfl); (· rfl); (· decide); (· rfl); (· exact HX.out.alloc _); (· rfl); (· rfl); (· exact World.news_of_block (World.alloc_heap_new X _)); (· exact four_one _ _ _ _ _ _); (· decide); (· exact B2.out); (· exact B1.out); (· exact Nat.le_trans HNX.out (by simp)); (· simp); intro g1 cap1 w7 own1 gr1 ly1 _))
        all_goals
          have gr1' := undrew gr1
          have hbe := below_push3 (n := w2.heap.size) HBW2.out gr1' (fun z hz => (HX.out.lt z hz).1) HNX.out
          have hnx := HROW.out.push HBL.out (w1 := X) (w2 := w7) (g2 := g1) (cap2 := cap1) (e := ⟨vk, .mk 1 0 [], none, 0⟩) (fun z _ hz => HBX'.out.block z hz) HBX'.out.size HB.out.size HTX.out (by simp only [bkCells, HPV.out.1, HPV.out.2.1, HPV.out.2.2]; exact own1) gr1' ly1
          have HNXT := Lib.hid hnx; have HBE := Lib.hid hbe
          clear gr1 gr1' ly1 own1 hbe hnx v0 z0 z1 z2 hk0 hk1 hi hz0 hz1 hz2
          go_wp2_with fail
          go_roundg (m - (k + 1))
          case measure => omega
          case rel => exact ⟨k + 1, _, by omega, rfl, by rw [List.map_append, HBS.out, statL_succ, HGD.out, ← HYQ.out]; rfl, HNXT.out, HBE.out, rfl⟩
    · obtain rfl : k = m := by omega
      go_wp2_with fail
      go_ret
      exact ⟨_, bs, rfl, HROW.out.base HB2.out.size, HBS.out, HB2.out.trans (HB.out.mono HB2.out.size)⟩
end Go.Proofs.Ytncdbbjkafgphaa
namespace Go.Proofs.Ytncdbbjkafgphaa
open Go Go.RowKit
open Tp (T Bd)

set_option maxRecDepth 100000 in
set_option maxHeartbeats 2000000 in
theorem closing_any (t : T) (a : Option Addr) (cap : Nat) (l : List T) (la : Option Addr) (lc : Nat) (w : World) (hs : Tp.size t ≤ 1000000) (hty : TyAt (LT w.heap.size) w t a cap) (hll : l.length ≤ maxLen) (hls : ∀ t ∈ l, Tp.size t ≤ 1000000) (hk : KidsAt (LT w.heap.size) w l la) :
    Calls Try.prog 30 #[tv t a cap, .slice la l.length lc] w (StPost (statL (Tp.vars t []) l true (Tp.vars t []).length) w) := by
  obtain ⟨k0, n0, m0, hv⟩ := TV.mk t
  rw [tv_of hv]
  obtain ⟨W1, hW1⟩ : ∃ W, w.alloc (.cells #[.int .i64 k0, .int .i64 n0, .slice a m0 cap] 24) = W := ⟨_, rfl⟩
  obtain ⟨hbx, hb1⟩ : BoxT W1 w.heap.size t k0 n0 m0 a cap ∧ Below w.heap.size w W1 := box_new hv hty hW1
  have hst := lstatic_any true t a cap l la lc W1 hs hbx.ty hll hls (hk.below hb1 (fun _ h => h) (fun _ h => Nat.lt_of_lt_of_le h hb1.size))
  rw [tv_of hv] at hst
  obtain ⟨n, hn⟩ : ∃ z, l.length = z := ⟨_, rfl⟩
  obtain ⟨S, hS⟩ : ∃ z, statL (Tp.vars t []) l true (Tp.vars t []).length = z := ⟨_, rfl⟩
  rw [hS] at hst ⊢
  rw [hn] at hst ⊢
  have HST := Lib.hid hst; have HB1 := Lib.hid hb1; have HBX := Lib.hid hbx; have HW1 := Lib.hid hW1
  clear hst hb1 hbx hW1 hs hty hv hS hn hll hls hk
  obtain ⟨c0, c1, c2⟩ := HBX.out.cells
  go_enter Try.func30, Try.ntmps30
  go_upto_region 1 with fail
  rw [HW1.out]
  go_wp2_with (go_at_call 27; refine HST.out.mono ?_; clear c0 c1 c2; rintro e w2 ⟨v, bs, rfl, hrow, hbs, hb2⟩; obtain ⟨va, vc, rfl⟩ := own_shapeT hrow.own; have HROW := Lib.hid hrow; have HBS := Lib.hid hbs; have HB2 := Lib.hid hb2; clear hrow hbs hb2)
  go_ret
  exact ⟨_, bs, rfl, HROW.out.base HB1.out.size, HBS.out, HB1.out.tr HB2.out (Nat.le_refl _)⟩

/-- Two rows of binds are the same. -/
def bsame : List Bd → List Bd → Bool
  | [], [] => true
  | x :: r, y :: s => (x.1 == y.1 && Tp.same x.2 y.2) && bsame r s
  | [], _ :: _ => false
  | _ :: _, [] => false
theorem bsame_iff : ∀ L M : List Bd, bsame L M = true ↔ L = M
  | [], [] => by simp [bsame]
  | [], _ :: _ => by simp [bsame]
  | _ :: _, [] => by simp [bsame]
  | (n, t) :: r, (q, u) :: s => by simp [bsame, bsame_iff r s, Tp.same_iff, and_assoc]
theorem bsame_len : ∀ L M : List Bd, L.length ≠ M.length → bsame L M = false := fun L M h => by
  cases e : bsame L M with
  | false => rfl
  | true => exact absurd (congrArg List.length ((bsame_iff L M).1 e)) h
theorem bsame_drop (L M : List Bd) (k : Nat) (h : k < L.length) (h' : k < M.length) : bsame (L.drop k) (M.drop k) = ((L[k].1 == M[k].1 && Tp.same L[k].2 M[k].2) && bsame (L.drop (k + 1)) (M.drop (k + 1))) := by
  rw [List.drop_eq_getElem_cons h, List.drop_eq_getElem_cons h']; rfl
theorem BindsAt.low {w w' : World} {L : List Bd} {a : Option Addr} (h : BindsAt (LT w.heap.size) w L a) (hb : Below w.heap.size w w') : BindsAt (LT w'.heap.size) w' L a := fun i hi => by
  obtain ⟨b, o, xa, xc, e, hg, ht, h0, h1, h2, h3⟩ := h.later hb i hi
  exact ⟨b, o, xa, xc, e, Nat.lt_of_lt_of_le hg hb.size, ty_same (fun _ _ => rfl) (fun _ hk => Nat.lt_of_lt_of_le hk hb.size) ht, h0, h1, h2, h3⟩
set_option maxRecDepth 100000 in
set_option maxHeartbeats 4000000 in
theorem kbinds_any (L M : List Bd) (la lb : Option Addr) (lc lc' : Nat) (w : World) (hl : L.length ≤ maxLen) (hl' : M.length ≤ maxLen) (hL : BindsAt (LT w.heap.size) w L la) (hM : BindsAt (LT w.heap.size) w M lb) :
    Calls Try.prog 24 #[.slice la L.length lc, .slice lb M.length lc'] w fun e w' => e = .returned (.bool (bsame L M)) ∧ Below w.heap.size w w' := by
  obtain ⟨m, hm⟩ : ∃ z, L.length = z := ⟨_, rfl⟩
  obtain ⟨n, hn⟩ : ∃ z, M.length = z := ⟨_, rfl⟩
  have hlen := bsame_len L M
  obtain ⟨res, hres⟩ : ∃ z, bsame L M = z := ⟨_, rfl⟩
  rw [hm, hn] at hlen
  rw [hm] at hl ⊢
  rw [hn] at hl' ⊢
  rw [hres] at hlen ⊢
  have hm2 : (m : Int) ≤ 9223372036854775807 := by unfold maxLen at hl; omega
  have hn2 : (n : Int) ≤ 9223372036854775807 := by unfold maxLen at hl'; omega
  have HL := Lib.hid hL; have HM := Lib.hid hM; have HLM := Lib.hid hm; have HMN := Lib.hid hn; have HR := Lib.hid hres; have HLEN := Lib.hid hlen
  clear hl hl' hL hM hm hn hres hlen
  go_enter Try.func24, Try.ntmps24
  by_cases hmn : m = n
  · subst hmn
    go_wp2_with fail
    go_loopg [5] m (fun gk v5 wr => ∃ (k : Nat), v5 = .int .i64 (k : Int) ∧ k ≤ m ∧ bsame (L.drop k) (M.drop k) = bsame L M ∧ Below w.heap.size w wr ∧ gk = m - k)
    case atStart => exact ⟨0, rfl, Nat.zero_le _, rfl, Below.refl _ _, rfl⟩
    case round =>
      obtain ⟨k, rfl, hk, hd, hb, rfl⟩ := hrel
      by_cases hlt : k < m
      · have hkl : k < L.length := by rw [HLM.out]; exact hlt
        have hkm : k < M.length := by rw [HMN.out]; exact hlt
        have hbd := hb.drew
        obtain ⟨b, o, xa, xc, rfl, hbn, hx, e0, e1, e2, e3⟩ := HL.out.low hbd k hkl
        obtain ⟨b', o', ya, yc, rfl, hbn', hy, f0, f1, f2, f3⟩ := HM.out.low hbd k hkm
        have hst := bsame_drop L M k hkl hkm
        obtain ⟨p, hp⟩ : ∃ z, L[k] = z := ⟨_, rfl⟩
        obtain ⟨q, hq⟩ : ∃ z, M[k] = z := ⟨_, rfl⟩
        rw [hp] at hx e0 e1 e2 e3 hst
        rw [hq] at hy f0 f1 f2 f3 hst
        obtain ⟨xk, xn, xm, hv⟩ := TV.mk p.2
        obtain ⟨yk, yn, ym, hv'⟩ := TV.mk q.2
        rw [hv.1] at e1; rw [hv.2.1] at e2; rw [hv.2.2] at e3; rw [hv'.1] at f1; rw [hv'.2.1] at f2; rw [hv'.2.2] at f3
        have hks := ks_any hv hv' hx hy
        obtain ⟨pv, hpv⟩ : ∃ z, p.1 = z := ⟨_, rfl⟩
        obtain ⟨qv, hqv⟩ : ∃ z, q.1 = z := ⟨_, rfl⟩
        obtain ⟨s, hs⟩ : ∃ z, Tp.same p.2 q.2 = z := ⟨_, rfl⟩
        rw [hpv, hqv, hs] at hst
        rw [hpv] at e0; rw [hqv] at f0; rw [hs] at hks
        have hk0 : (0 : Int) ≤ (k : Int) := Int.natCast_nonneg k
        have hk1 : (k : Int) < (m : Int) := by omega
        have HKS := Lib.hid hks; have HST := Lib.hid hst; have HD := Lib.hid hd; have HB := Lib.hid hb
        clear hks hst hd hb hbd hx hy hv hv' hp hq hpv hqv hs hbn hbn'
        go_upto_region 6 with fail
        by_cases hpq : pv = qv
        · cases s with
          | true =>
            have g : (pv != qv) = false := by simp [hpq]
            refine wp_region_seq [(0, false), (0, false), (0, false), (0, false), (0, false), (0, false), (0, false), (0, false), (0, false), (0, false), (0, false), (0, false), (0, false), (0, false), (0, false), (0, false), (0, false), (0, false), (0, false), (0, false), (0, false), (0, false), (0, true), (0, false), (0, false)] (by kernel_rfl) (by kernel_rfl) (by kernel_rfl) (fun _ _ _ d _ h => by cases d <;> exact h) ?_
            repeat
              first
              | (first | with_reducible refine sp0 (fun K hK => ?_) | with_reducible refine sp1 (fun K hK => ?_) | with_reducible refine sp2 (fun K hK => ?_) | with_reducible refine sp3 (fun K hK => ?_) | with_reducible refine sp4 (fun K hK => ?_)
                 go_simp
                 first
                 | (with_reducible refine hK _ _ ?_; clear hK K)
                 | (with_reducible apply Exists.intro
                    refine ⟨fun x hx => ?_, hK _ _ ?_⟩
                    first
                      | (with_reducible exact rfl)
                      | (have y0 := keepc hx e0; have y1 := keepc hx e1; have y2 := keepc hx e2; have y3 := keepc hx e3; have y4 := keepc hx f0; have y5 := keepc hx f1; have y6 := keepc hx f2; have y7 := keepc hx f3; go_simp; done)
                      | (have y0 := keepc hx e0; have y1 := keepc hx e1; have y2 := keepc hx e2; have y3 := keepc hx e3; have y4 := keepc hx f0; have y5 := keepc hx f1; have y6 := keepc hx f2; have y7 := keepc hx f3; go_simp; with_reducible exact rfl)
                    clear hK K))
              | (first | with_reducible refine sk0 ?_ (fun K hK => ?_) | with_reducible refine sk1 ?_ (fun K hK => ?_) | with_reducible refine sk2 ?_ (fun K hK => ?_) | with_reducible refine sk3 ?_ (fun K hK => ?_) | with_reducible refine sk4 ?_ (fun K hK => ?_)
                 rfl
                 go_simp
                 with_reducible refine hK _ _ ?_
                 clear hK K)
            first | with_reducible refine sc0 (fun K hK => ?_) | with_reducible refine sc1 (fun K hK => ?_) | with_reducible refine sc2 (fun K hK => ?_) | with_reducible refine sc3 (fun K hK => ?_) | with_reducible refine sc4 (fun K hK => ?_)
            go_simp
            refine (HKS.out).mono ?_
            clear e0 e1 e2 e3 f0 f1 f2 f3
            rintro r w' ⟨rfl, hb'⟩
            refine ⟨hb', hK _ _ ?_⟩
            clear hK K
            have hb2 := below_undrew hb'
            repeat
              first
              | (first | with_reducible refine sp0 (fun K hK => ?_) | with_reducible refine sp1 (fun K hK => ?_) | with_reducible refine sp2 (fun K hK => ?_) | with_reducible refine sp3 (fun K hK => ?_) | with_reducible refine sp4 (fun K hK => ?_)
                 go_simp
                 first
                 | (with_reducible refine hK _ _ ?_; clear hK K)
                 | (with_reducible apply Exists.intro
                    refine ⟨fun x hx => ?_, hK _ _ ?_⟩
                    first
                      | (with_reducible exact rfl)
                    clear hK K))
              | (first | with_reducible refine sk0 ?_ (fun K hK => ?_) | with_reducible refine sk1 ?_ (fun K hK => ?_) | with_reducible refine sk2 ?_ (fun K hK => ?_) | with_reducible refine sk3 ?_ (fun K hK => ?_) | with_reducible refine sk4 ?_ (fun K hK => ?_)
                 rfl
                 go_simp
                 with_reducible refine hK _ _ ?_
                 clear hK K)
            with_reducible refine seq_nil ?_
            go_wp2_with fail
            go_roundg (m - (k + 1))
            case measure => omega
            case rel => exact ⟨k + 1, by first | rfl | go_num, by omega, by rw [← HD.out, HST.out, hpq]; simp, HB.out.tr hb2 (Nat.le_refl _), rfl⟩
          | false =>
            have g : (pv != qv) = false := by simp [hpq]
            refine wp_region_seq [(0, false), (0, false), (0, false), (0, false), (0, false), (0, false), (0, false), (0, false), (0, false), (0, false), (0, false), (0, false), (0, false), (0, false), (0, false), (0, false), (0, false), (0, false), (0, false), (0, false), (0, false), (0, false), (0, true), (0, false), (0, false)] (by kernel_rfl) (by kernel_rfl) (by kernel_rfl) (fun _ _ _ d _ h => by cases d <;> exact h) ?_
            repeat
              first
              | (first | with_reducible refine sp0 (fun K hK => ?_) | with_reducible refine sp1 (fun K hK => ?_) | with_reducible refine sp2 (fun K hK => ?_) | with_reducible refine sp3 (fun K hK => ?_) | with_reducible refine sp4 (fun K hK => ?_)
                 go_simp
                 first
                 | (with_reducible refine hK _ _ ?_; clear hK K)
                 | (with_reducible apply Exists.intro
                    refine ⟨fun x hx => ?_, hK _ _ ?_⟩
                    first
                      | (with_reducible exact rfl)
                      | (have y0 := keepc hx e0; have y1 := keepc hx e1; have y2 := keepc hx e2; have y3 := keepc hx e3; have y4 := keepc hx f0; have y5 := keepc hx f1; have y6 := keepc hx f2; have y7 := keepc hx f3; go_simp; done)
                      | (have y0 := keepc hx e0; have y1 := keepc hx e1; have y2 := keepc hx e2; have y3 := keepc hx e3; have y4 := keepc hx f0; have y5 := keepc hx f1; have y6 := keepc hx f2; have y7 := keepc hx f3; go_simp; with_reducible exact rfl)
                    clear hK K))
              | (first | with_reducible refine sk0 ?_ (fun K hK => ?_) | with_reducible refine sk1 ?_ (fun K hK => ?_) | with_reducible refine sk2 ?_ (fun K hK => ?_) | with_reducible refine sk3 ?_ (fun K hK => ?_) | with_reducible refine sk4 ?_ (fun K hK => ?_)
                 rfl
                 go_simp
                 with_reducible refine hK _ _ ?_
                 clear hK K)
            first | with_reducible refine sc0 (fun K hK => ?_) | with_reducible refine sc1 (fun K hK => ?_) | with_reducible refine sc2 (fun K hK => ?_) | with_reducible refine sc3 (fun K hK => ?_) | with_reducible refine sc4 (fun K hK => ?_)
            go_simp
            refine (HKS.out).mono ?_
            clear e0 e1 e2 e3 f0 f1 f2 f3
            rintro r w' ⟨rfl, hb'⟩
            refine ⟨hb', hK _ _ ?_⟩
            clear hK K
            have hb2 := below_undrew hb'
            repeat
              first
              | (first | with_reducible refine sp0 (fun K hK => ?_) | with_reducible refine sp1 (fun K hK => ?_) | with_reducible refine sp2 (fun K hK => ?_) | with_reducible refine sp3 (fun K hK => ?_) | with_reducible refine sp4 (fun K hK => ?_)
                 go_simp
                 first
                 | (with_reducible refine hK _ _ ?_; clear hK K)
                 | (with_reducible apply Exists.intro
                    refine ⟨fun x hx => ?_, hK _ _ ?_⟩
                    first
                      | (with_reducible exact rfl)
                    clear hK K))
              | (first | with_reducible refine sk0 ?_ (fun K hK => ?_) | with_reducible refine sk1 ?_ (fun K hK => ?_) | with_reducible refine sk2 ?_ (fun K hK => ?_) | with_reducible refine sk3 ?_ (fun K hK => ?_) | with_reducible refine sk4 ?_ (fun K hK => ?_)
                 rfl
                 go_simp
                 with_reducible refine hK _ _ ?_
                 clear hK K)
            with_reducible refine seq_nil ?_
            go_wp2_with fail
            go_ret
            exact ⟨by rw [← HR.out, ← HD.out, HST.out]; simp, HB.out.tr hb2 (Nat.le_refl _)⟩
        · have g : (pv != qv) = true := by simp [hpq]
          refine wp_region_seq [(0, false), (0, false), (0, false), (0, false), (0, false), (0, false), (0, false), (0, false), (0, false), (0, false), (0, false), (0, false), (0, false), (0, false), (0, false), (0, false), (0, false), (0, false), (0, false), (0, false), (0, false), (0, false), (0, true), (0, false), (0, false)] (by kernel_rfl) (by kernel_rfl) (by kernel_rfl) (fun _ _ _ d _ h => by cases d <;> exact h) ?_
          repeat
            first
            | (first | with_reducible refine sp0 (fun K hK => ?_) | with_reducible refine sp1 (fun K hK => ?_) | with_reducible refine sp2 (fun K hK => ?_) | with_reducible refine sp3 (fun K hK => ?_) | with_reducible refine sp4 (fun K hK => ?_)
               go_simp
               first
               | (with_reducible refine hK _ _ ?_; clear hK K)
               | (with_reducible apply Exists.intro
                  refine ⟨fun x hx => ?_, hK _ _ ?_⟩
                  first
                    | (with_reducible exact rfl)
                    | (have y0 := keepc hx e0; have y1 := keepc hx e1; have y2 := keepc hx e2; have y3 := keepc hx e3; have y4 := keepc hx f0; have y5 := keepc hx f1; have y6 := keepc hx f2; have y7 := keepc hx f3; go_simp; done)
                    | (have y0 := keepc hx e0; have y1 := keepc hx e1; have y2 := keepc hx e2; have y3 := keepc hx e3; have y4 := keepc hx f0; have y5 := keepc hx f1; have y6 := keepc hx f2; have y7 := keepc hx f3; go_simp; with_reducible exact rfl)
                  clear hK K))
            | (first | with_reducible refine sk0 ?_ (fun K hK => ?_) | with_reducible refine sk1 ?_ (fun K hK => ?_) | with_reducible refine sk2 ?_ (fun K hK => ?_) | with_reducible refine sk3 ?_ (fun K hK => ?_) | with_reducible refine sk4 ?_ (fun K hK => ?_)
               rfl
               go_simp
               with_reducible refine hK _ _ ?_
               clear hK K)
          with_reducible refine seq_nil ?_
          go_wp2_with fail
          go_ret
          exact ⟨by rw [← HR.out, ← HD.out, HST.out]; rw [show (pv == qv) = false from by simp [hpq]]; rfl, HB.out.drew⟩
      · obtain rfl : k = m := by omega
        go_wp2_with fail
        go_ret
        refine ⟨?_, hb⟩
        rw [← HR.out, ← hd, List.drop_of_length_le (by rw [HLM.out]; exact Nat.le_refl _), List.drop_of_length_le (by rw [HMN.out]; exact Nat.le_refl _)]; rfl
  · have g : ((m : Int) != (n : Int)) = true := by simp; omega
    go_wp2_with fail
    go_ret
    exact ⟨by rw [HLEN.out hmn]; rfl, Below.refl _ _⟩
end Go.Proofs.Ytncdbbjkafgphaa

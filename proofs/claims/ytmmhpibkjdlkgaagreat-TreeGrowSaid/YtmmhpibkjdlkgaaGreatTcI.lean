/- tree's rightPats, walked. tree's rightExpr, whatever the kind; an expression's cells where it lies. -/
import Derived.Test.YtmmhpibkjdlkgaaGreatTcB
import Derived.Test.YtmmhpibkjdlkgaaGreatTeA
import Derived.Test.YtmmhpibkjdlkgaaGreatTcE
import Derived.Test.YtmmhpibkjdlkgaaGreatTcF
import Derived.Test.YtmmhpibkjdlkgaaGreatTcG
import Derived.Test.YtmmhpibkjdlkgaaGreatTcH
import Derived.Test.YtmmhpibkjdlkgaaGreatTcM
namespace Go.Proofs.YtmmhpibkjdlkgaaGreat
open Go Go.RowKit
open Tr (P)

theorem all_take {l : List P} {i : Nat} (h : i < l.length) : (l.take (i + 1)).all Tr.right = ((l.take i).all Tr.right && Tr.right l[i]) := by
  rw [List.take_succ_eq_append_getElem h, List.all_append]; simp
theorem all_not {l : List P} {i : Nat} (h : i < l.length) (hf : Tr.right l[i] = false) : l.all Tr.right = false := by
  rw [Bool.eq_false_iff]
  intro ht
  rw [List.all_eq_true] at ht
  have := ht l[i] (List.getElem_mem h)
  rw [hf] at this; cases this
set_option maxRecDepth 100000 in
set_option maxHeartbeats 4000000 in
theorem rightPats_any (l : List P) (a : Option Addr) (cap : Nat) (w : World) (hl : l.length ≤ cap ∧ cap ≤ maxLen) (hsz : ∀ p ∈ l, Tr.size p ≤ 10000 ∧ Tr.short p = true) (hk : PKids (LT w.heap.size) w l a) :
    Calls Tryz.prog 91 #[.slice a l.length cap] w fun e w' => e = .returned (.bool (l.all Tr.right)) ∧ Below w.heap.size w w' := by
  obtain ⟨m, hm⟩ : ∃ m, l.length = m := ⟨_, rfl⟩
  have hm2 : (m : Int) ≤ 9223372036854775807 := by have h1 := hl.1; have h2 := hl.2; unfold maxLen at h2; omega
  rw [hm]
  have HK := Lib.hid hk; have HM := Lib.hid hm; have HSZ := Lib.hid hsz; have HL := Lib.hid hl
  clear hk hm hsz hl
  go_enter Tryz.func91, Tryz.ntmps91
  go_upto_region 2 with fail
  go_loopg [7] m (fun gk v7 wr => ∃ i : Nat, v7 = .int .i64 (i : Int) ∧ i ≤ m ∧ (l.take i).all Tr.right = true ∧ Below w.heap.size w wr ∧ gk = m - i)
  case atStart => exact ⟨0, rfl, Nat.zero_le _, by simp, Below.refl _ _, rfl⟩
  case round =>
    obtain ⟨i, rfl, hi, hall, hb, rfl⟩ := hrel
    have HB := Lib.hid hb; have HALL := Lib.hid hall
    clear hb hall
    by_cases hlt : i < m
    · have hil : i < l.length := by rw [HM.out]; exact hlt
      have hk2 := PKids.mono (fun b o h => HB.out.cell (p := ⟨b, o, none⟩) h) (fun b h => Nat.lt_of_lt_of_le h HB.out.size) l a HK.out (G' := LT wr.heap.size)
      obtain ⟨b, o, rfl, hbn, hN⟩ := hk2.first (by omega)
      obtain ⟨xa, xc, hat, hcs⟩ := (hN i hil).pat
      have hp := HSZ.out l[i] (List.getElem_mem hil)
      have hcall := fun ob => checkPat_any l[i] xa xc (wr.alloc ob) hp.1 hp.2 (pat_later hat ((Below.refl _ _).alloc (Nat.le_refl _) _))
      have hat2 := all_take hil
      have hnot := all_not hil
      rw [HALL.out, Bool.true_and] at hat2
      unfold pv at hcall
      obtain ⟨e0, e1, e2, e3, e4, e5, e6⟩ := hcs
      obtain ⟨q, hq⟩ : ∃ q, l[i] = q := ⟨_, rfl⟩
      rw [hq] at hcall hat2 hnot e0 e1 e2 e3 e4 e5 e6
      obtain ⟨bq, hbq⟩ : ∃ b, Tr.right q = b := ⟨_, rfl⟩
      rw [hbq] at hcall hat2 hnot
      have HCL := Lib.hid hcall; have HAT := Lib.hid hat2; have HNOT := Lib.hid hnot
      clear hcall hat2 hnot hat hp hN hk2 hq hbq
      have hal := fun o : Obj => HB.out.alloc HB.out.size o
      have HAL := Lib.hid hal
      clear hal
      cases bq with
      | false =>
        rw [show errOf false = 1 from rfl] at HCL
        go_wp2_with (go_at_call 39; with_reducible refine (HCL.out _).mono ?_; rintro e w1 ⟨rfl, hb1⟩; have HB1 := Lib.hid hb1; clear hb1)
        go_ret
        exact ⟨ret_boolP (HNOT.out (by simp)).symm, (HAL.out _).trans (HB1.out.mono (by have := HB.out.size; simp; omega))⟩
      | true =>
        rw [show errOf true = 0 from rfl] at HCL
        go_wp2_with (go_at_call 39; with_reducible refine (HCL.out _).mono ?_; rintro e w1 ⟨rfl, hb1⟩; have HB1 := Lib.hid hb1; clear hb1)
        go_roundg (m - (i + 1))
        case measure => omega
        case rel => exact ⟨i + 1, by first | rfl | go_num, by omega, HAT.out, (HAL.out _).trans (HB1.out.mono (by have := HB.out.size; simp; omega)), rfl⟩
    · obtain rfl : i = m := by omega
      have hall := HALL.out
      rw [List.take_of_length_le (by rw [HM.out]; exact Nat.le_refl _)] at hall
      have HALL2 := Lib.hid hall
      clear hall
      go_wp2_with fail
      go_ret
      exact ⟨ret_boolP HALL2.out.symm, HB.out⟩
end Go.Proofs.YtmmhpibkjdlkgaaGreat
namespace Go.Proofs.YtmmhpibkjdlkgaaGreat
open Go Go.RowKit
open Ex (E)

/-- Nothing of one expression that is asked of is too great, its kids aside. -/
structure Ex.Fine (e : E) : Prop where
  nm : e.nm.length ≤ 300
  ar : e.ar.length ≤ 300
  a : Tp.size e.a ≤ 10000
  b : Tp.size e.b ≤ 10000
  ps : ∀ p ∈ e.pats, Tr.size p ≤ 10000 ∧ Tr.short p = true
theorem rightExpr_any (e : E) (s : Leads) (w : World) (hf : Ex.Fine e) (h : ExAt (LT w.heap.size) w e s) :
    Calls Tryz.prog 55 #[ev e s] w fun r w' => r = .returned (.bool (Ex.nodeRight e)) ∧ Below w.heap.size w w' := by
  have hin : XIn w e.nm e.ar e.a s.aa s.ac e.b s.ba s.bc := ⟨hf.nm, hf.ar, hf.a, hf.b, h.ta, h.tb⟩
  have hrp : ∀ W, Below w.heap.size w W → Calls Tryz.prog 91 #[.slice s.pa e.pats.length s.pc] W fun r w' => r = .returned (.bool (e.pats.all Tr.right)) ∧ Below W.heap.size W w' := fun W hb =>
    rightPats_any e.pats s.pa s.pc W h.lp hf.ps (PKids.mono (fun b o h => hb.cell (p := ⟨b, o, none⟩) h) (fun b h => Nat.lt_of_lt_of_le h hb.size) _ _ h.ps)
  show Calls Tryz.prog 55 #[xv e.kind e.frm e.til e.nm e.ar e.num e.s e.op e.a s.aa s.ac e.b s.ba s.bc e.pats.length s.pa s.pc e.kids.length s.ka s.kc] w fun r w' =>
    r = .returned (.bool (Ex.nodeR e.kind e.nm e.ar e.num e.s e.op e.a e.b e.pats.length (e.pats.all Tr.right) e.kids.length)) ∧ Below w.heap.size w w'
  have hpl : e.pats.length ≤ maxLen := Nat.le_trans h.lp.1 h.lp.2
  have hkl : e.kids.length ≤ maxLen := Nat.le_trans h.lk.1 h.lk.2
  by_cases hk : 1 ≤ e.kind ∧ e.kind ≤ 16
  · have : e.kind = 1 ∨ e.kind = 2 ∨ e.kind = 3 ∨ e.kind = 4 ∨ e.kind = 5 ∨ e.kind = 6 ∨ e.kind = 7 ∨ e.kind = 8 ∨ e.kind = 9 ∨ e.kind = 10 ∨ e.kind = 11 ∨ e.kind = 12 ∨ e.kind = 13 ∨ e.kind = 14 ∨ e.kind = 15 ∨ e.kind = 16 := by omega
    rcases this with h | h | h | h | h | h | h | h | h | h | h | h | h | h | h | h
    · exact rightE_k1 _ _ _ _ _ _ _ _ _ _ _ _ _ _ _ _ _ _ _ _ _ _ hin h
    · exact rightE_k2 _ _ _ _ _ _ _ _ _ _ _ _ _ _ _ _ _ _ _ _ _ _ hin h
    · exact rightE_k3 _ _ _ _ _ _ _ _ _ _ _ _ _ _ _ _ _ _ _ _ _ _ hin h
    · exact rightE_k4 _ _ _ _ _ _ _ _ _ _ _ _ _ _ _ _ _ _ _ _ _ _ hin h
    · exact rightE_k5 _ _ _ _ _ _ _ _ _ _ _ _ _ _ _ _ _ _ _ _ _ _ hin h
    · exact rightE_k6 _ _ _ _ _ _ _ _ _ _ _ _ _ _ _ _ _ _ _ _ _ _ hin h
    · exact rightE_k7 _ _ _ _ _ _ _ _ _ _ _ _ _ _ _ _ _ _ _ _ _ _ hin h
    · exact rightE_k8 _ _ _ _ _ _ _ _ _ _ _ _ _ _ _ _ _ _ _ _ _ _ hin h
    · exact rightE_k9 _ _ _ _ _ _ _ _ _ _ _ _ _ _ _ _ _ _ _ _ _ _ hin h
    · exact rightE_k10 _ _ _ _ _ _ _ _ _ _ _ _ _ _ _ _ _ _ _ _ _ _ hin h
    · exact rightE_k11 _ _ _ _ _ _ _ _ _ _ _ _ _ _ _ _ _ _ _ _ _ _ hin h
    · exact rightE_k12 _ _ _ _ _ _ _ _ _ _ _ _ _ _ _ _ _ _ _ _ _ _ hin h
    · exact rightE_k13 _ _ _ _ _ _ _ _ _ _ _ _ _ _ _ _ _ _ _ _ _ _ hin h
    · rcases Nat.lt_or_eq_of_le hpl with hpl | hpl
      · exact rightE_k14 _ _ _ _ _ _ _ _ _ _ _ _ _ _ _ _ _ _ _ _ _ _ hin h hpl hrp
      · exact rightE_k14m _ _ _ _ _ _ _ _ _ _ _ _ _ _ _ _ _ _ _ _ _ _ hin h hpl hkl hrp
    · exact rightE_k15 _ _ _ _ _ _ _ _ _ _ _ _ _ _ _ _ _ _ _ _ _ _ hin h
    · exact rightE_k16 _ _ _ _ _ _ _ _ _ _ _ _ _ _ _ _ _ _ _ _ _ _ hin h
  · exact rightE_kno _ _ _ _ _ _ _ _ _ _ _ _ _ _ _ _ _ _ _ _ _ _ hin hk
/-- The sixteen cells of an expression. -/
def ECells (W : World) (b o : Nat) (e : E) (s : Leads) : Prop := ∀ (i : Nat) (v : Value), (evCells e s)[i]? = some v → W.cell? ⟨b, o + i, none⟩ = some v
theorem ENode.parts {G : Nat → Prop} {W : World} {e : E} {b o : Nat} (h : ENode G W e b o) : ∃ s, ExAt G W e s ∧ ECells W b o e s := by
  obtain ⟨⟨h0, c0, c1, c2, c3, c4, c5, c6, c7, ca, cb, pa, pc, cp, p1, p2, p3⟩, ka, kc, ck, k1, k2, k3⟩ := h.kidsAt
  obtain ⟨aa, ac, ta, a0, a1, a2⟩ := ca.ty
  obtain ⟨ba, bc, tb, b0, b1, b2⟩ := cb.ty
  refine ⟨⟨aa, ac, ba, bc, pa, pc, ka, kc⟩, ⟨h0, ta, tb, ⟨p1, p2⟩, p3, ⟨k1, k2⟩, k3⟩, ?_⟩
  intro i v hv
  match i, hv with
  | 0, hv => rw [← hv]; exact c0
  | 1, hv => rw [← hv]; exact c1
  | 2, hv => rw [← hv]; exact c2
  | 3, hv => rw [← hv]; exact c3
  | 4, hv => rw [← hv]; exact c4
  | 5, hv => rw [← hv]; exact c5
  | 6, hv => rw [← hv]; exact c6
  | 7, hv => rw [← hv]; exact c7
  | 8, hv => rw [← hv]; exact a0
  | 9, hv => rw [← hv]; exact a1
  | 10, hv => rw [← hv]; exact a2
  | 11, hv => rw [← hv]; exact b0
  | 12, hv => rw [← hv]; exact b1
  | 13, hv => rw [← hv]; exact b2
  | 14, hv => rw [← hv]; exact cp
  | 15, hv => rw [← hv]; exact ck
  | n + 16, hv => simp [evCells] at hv
theorem ExAt.mono {G G' : Nat → Prop} {W W' : World} {e : E} {s : Leads} (x : ExAt G W e s) (h : ∀ b o, G b → W'.cell? ⟨b, o, none⟩ = W.cell? ⟨b, o, none⟩) (hn : ∀ b, G b → G' b) : ExAt G' W' e s :=
  ⟨x.i64, ⟨x.ta.1, x.ta.2.1, x.ta.2.2.1, x.ta.2.2.2.1, KidsAt.mono h hn _ _ x.ta.2.2.2.2⟩, ⟨x.tb.1, x.tb.2.1, x.tb.2.2.1, x.tb.2.2.2.1, KidsAt.mono h hn _ _ x.tb.2.2.2.2⟩, x.lp, PKids.mono h hn _ _ x.ps, x.lk, EKids.mono h hn _ _ x.ks⟩
end Go.Proofs.YtmmhpibkjdlkgaaGreat

/- slices.EqualFunc at two rows of patterns, with samePat. tree.alike: two expressions, whatever their kids are. tree.Same, walked. -/
import Derived.Test.YtmmhpibkjdlkgaaGreatTsC
import Derived.Test.YtmmhpibkjdlkgaaGreatTcI
import Derived.Test.YtmmhpibkjdlkgaaGreatTyZ
import Derived.Test.YtmmhpibkjdlkgaaGreatSeqA
import Derived.Test.YtmmhpibkjdlkgaaGreatTsD
import Derived.Test.YtmmhpibkjdlkgaaGreatTcK
namespace Go.Proofs.YtmmhpibkjdlkgaaGreat
open Go Go.RowKit Go.Shelf
open Tr (P)

namespace Tr
theorem sames_zip : ∀ (l m : List P), sames l m = (l.zip m).all fun x => same x.1 x.2
  | x :: r, y :: s => by rw [sames, sames_zip r s]; rfl
  | [], m => by cases m <;> rfl
  | _ :: _, [] => rfl
end Tr
theorem zip_all_take {l m : List P} {i : Nat} (h1 : i < l.length) (h2 : i < m.length) : ((l.zip m).take (i + 1)).all (fun x => Tr.same x.1 x.2) = (((l.zip m).take i).all (fun x => Tr.same x.1 x.2) && Tr.same l[i] m[i]) := by
  have hz : i < (l.zip m).length := by rw [List.length_zip]; omega
  rw [List.take_succ_eq_append_getElem hz, List.all_append, List.getElem_zip]; simp
theorem zip_all_not {l m : List P} {i : Nat} (h1 : i < l.length) (h2 : i < m.length) (h : Tr.same l[i] m[i] = false) : Ex.patsAlike l m = false := by
  have hz : i < (l.zip m).length := by rw [List.length_zip]; omega
  unfold Ex.patsAlike
  rw [Tr.sames_zip]
  have : ((l.zip m).all fun x => Tr.same x.1 x.2) = false := by
    rw [Bool.eq_false_iff]
    intro ht
    rw [List.all_eq_true] at ht
    have := ht _ (List.getElem_mem hz)
    rw [List.getElem_zip] at this
    rw [h] at this; cases this
  rw [this, Bool.and_false]
set_option maxRecDepth 100000 in
set_option maxHeartbeats 4000000 in
theorem equalPats_any (l m : List P) (a a' : Option Addr) (cap cap' : Nat) (w : World) (hsz : ∀ p ∈ l, Tr.size p ≤ 10000) (hl : l.length ≤ cap ∧ cap ≤ maxLen) (hm : m.length ≤ cap' ∧ cap' ≤ maxLen) (hk : PKids (LT w.heap.size) w l a) (hk' : PKids (LT w.heap.size) w m a') :
    Calls Tryz.prog 98 #[.slice a l.length cap, .slice a' m.length cap', .func (.func 99) #[] #[]] w fun e w' => e = .returned (.bool (Ex.patsAlike l m)) ∧ Below w.heap.size w w' := by
  obtain ⟨n1, hn1⟩ : ∃ k, l.length = k := ⟨_, rfl⟩
  obtain ⟨n2, hn2⟩ : ∃ k, m.length = k := ⟨_, rfl⟩
  have hm2 : (n1 : Int) ≤ 9223372036854775807 := by have h1 := hl.1; have h2 := hl.2; unfold maxLen at h2; omega
  have HK := Lib.hid hk; have HK' := Lib.hid hk'; have HN1 := Lib.hid hn1; have HN2 := Lib.hid hn2; have HSZ := Lib.hid hsz
  rw [hn1, hn2]
  rw [hn1] at hl
  rw [hn2] at hm
  have HL := Lib.hid hl; have HM := Lib.hid hm
  clear hk hk' hn1 hn2 hl hm hsz
  by_cases he : n1 = n2
  case neg =>
    have g : ((n1 : Int) != (n2 : Int)) = true := by simp; omega
    have hno : Ex.patsAlike l m = false := by unfold Ex.patsAlike; rw [HN1.out, HN2.out, decide_eq_false he, Bool.false_and]
    have HNO := Lib.hid hno
    clear hno he
    go_enter Tryz.func98, Tryz.ntmps98
    go_wp2_with fail
    go_ret
    exact ⟨by rw [HNO.out]; rfl, Below.refl _ _⟩
  subst he
  have g : ((n1 : Int) != (n1 : Int)) = false := by simp
  go_enter Tryz.func98, Tryz.ntmps98
  go_upto_region 4 with fail
  go_loopg [17] n1 (fun gk v wr => ∃ i : Nat, v = .int .i64 (i : Int) ∧ i ≤ n1 ∧ ((l.zip m).take i).all (fun x => Tr.same x.1 x.2) = true ∧ Below w.heap.size w wr ∧ gk = n1 - i)
  case atStart => exact ⟨0, rfl, Nat.zero_le _, by simp, Below.refl _ _, rfl⟩
  case round =>
    obtain ⟨i, rfl, hi, hall, hb, rfl⟩ := hrel
    have HB := Lib.hid hb; have HALL := Lib.hid hall
    clear hb hall
    by_cases hlt : i < n1
    · have hil : i < l.length := by rw [HN1.out]; exact hlt
      have him : i < m.length := by rw [HN2.out]; exact hlt
      have hk2 := PKids.mono (fun b o h => HB.out.cell (p := ⟨b, o, none⟩) h) (fun b h => Nat.lt_of_lt_of_le h HB.out.size) l a HK.out (G' := LT wr.heap.size)
      have hk3 := PKids.mono (fun b o h => HB.out.cell (p := ⟨b, o, none⟩) h) (fun b h => Nat.lt_of_lt_of_le h HB.out.size) m a' HK'.out (G' := LT wr.heap.size)
      obtain ⟨b, o, rfl, hbn, hN⟩ := hk2.first (by omega)
      obtain ⟨b', o', rfl, hbn', hN'⟩ := hk3.first (by omega)
      obtain ⟨xa, xc, hat, hcs⟩ := (hN i hil).pat
      obtain ⟨ya, yc, hat', hcs'⟩ := (hN' i him).pat
      have hp := HSZ.out l[i] (List.getElem_mem hil)
      have hcall := fun o1 o2 => samePat_any l[i] m[i] xa ya xc yc ((wr.alloc o1).alloc o2) hp (pat_later hat (((Below.refl _ _).alloc (Nat.le_refl _) _).alloc (by simp) _)) (pat_later hat' (((Below.refl _ _).alloc (Nat.le_refl _) _).alloc (by simp) _))
      have hat2 := zip_all_take hil him
      have hnot := zip_all_not hil him
      rw [HALL.out, Bool.true_and] at hat2
      unfold pv at hcall
      obtain ⟨e0, e1, e2, e3, e4, e5, e6⟩ := hcs
      obtain ⟨f0, f1, f2, f3, f4, f5, f6⟩ := hcs'
      obtain ⟨q, hq⟩ : ∃ q, l[i] = q := ⟨_, rfl⟩
      obtain ⟨s, hs⟩ : ∃ q, m[i] = q := ⟨_, rfl⟩
      rw [hq, hs] at hcall hat2 hnot
      rw [hq] at e0 e1 e2 e3 e4 e5 e6
      rw [hs] at f0 f1 f2 f3 f4 f5 f6
      obtain ⟨bq, hbq⟩ : ∃ b, Tr.same q s = b := ⟨_, rfl⟩
      rw [hbq] at hcall hat2 hnot
      have HCL := Lib.hid hcall; have HAT := Lib.hid hat2; have HNOT := Lib.hid hnot
      have hf : ∀ (o : Obj) (k : Nat), (wr.alloc o).cell? ⟨b', k, none⟩ = wr.cell? ⟨b', k, none⟩ := fun o k => World.cell?_of_block (a := ⟨b', k, none⟩) (Below.heap_alloc _ _ _ hbn')
      have g0 := fun o => (hf o _).trans f0
      have g1 := fun o => (hf o _).trans f1
      have g2 := fun o => (hf o _).trans f2
      have g3 := fun o => (hf o _).trans f3
      have g4 := fun o => (hf o _).trans f4
      have g5 := fun o => (hf o _).trans f5
      have g6 := fun o => (hf o _).trans f6
      clear hcall hat2 hnot hat hat' hp hN hN' hk2 hk3 hq hs hbq hf f0 f1 f2 f3 f4 f5 f6
      have hal := fun o1 o2 : Obj => (HB.out.alloc HB.out.size o1).alloc (show w.heap.size ≤ (wr.alloc o1).heap.size by have := HB.out.size; simp; omega) o2
      have HAL := Lib.hid hal
      clear hal
      go_upto_region 7 with fail
      obtain ⟨W2, hW2⟩ : ∃ W2, [Obj.cells #[.int .i64 q.kind, .int .i64 q.frm, .int .i64 q.til, .string ⟨q.nm.toArray⟩, .int .i64 q.num, .string ⟨q.s.toArray⟩, .slice xa q.kids.length xc] 50, Obj.cells #[.int .i64 s.kind, .int .i64 s.frm, .int .i64 s.til, .string ⟨s.nm.toArray⟩, .int .i64 s.num, .string ⟨s.s.toArray⟩, .slice ya s.kids.length yc] 50].foldl World.alloc wr = W2 := ⟨_, rfl⟩
      have hW2' : (wr.alloc (Obj.cells #[.int .i64 q.kind, .int .i64 q.frm, .int .i64 q.til, .string ⟨q.nm.toArray⟩, .int .i64 q.num, .string ⟨q.s.toArray⟩, .slice xa q.kids.length xc] 50)).alloc (Obj.cells #[.int .i64 s.kind, .int .i64 s.frm, .int .i64 s.til, .string ⟨s.nm.toArray⟩, .int .i64 s.num, .string ⟨s.s.toArray⟩, .slice ya s.kids.length yc] 50) = W2 := hW2
      rw [hW2']
      have hcall2 := HCL.out (Obj.cells #[.int .i64 q.kind, .int .i64 q.frm, .int .i64 q.til, .string ⟨q.nm.toArray⟩, .int .i64 q.num, .string ⟨q.s.toArray⟩, .slice xa q.kids.length xc] 50) (Obj.cells #[.int .i64 s.kind, .int .i64 s.frm, .int .i64 s.til, .string ⟨s.nm.toArray⟩, .int .i64 s.num, .string ⟨s.s.toArray⟩, .slice ya s.kids.length yc] 50)
      have hal2 := HAL.out (Obj.cells #[.int .i64 q.kind, .int .i64 q.frm, .int .i64 q.til, .string ⟨q.nm.toArray⟩, .int .i64 q.num, .string ⟨q.s.toArray⟩, .slice xa q.kids.length xc] 50) (Obj.cells #[.int .i64 s.kind, .int .i64 s.frm, .int .i64 s.til, .string ⟨s.nm.toArray⟩, .int .i64 s.num, .string ⟨s.s.toArray⟩, .slice ya s.kids.length yc] 50)
      rw [hW2'] at hcall2 hal2
      have hx0 : W2.heap[wr.heap.size]? = some (Obj.cells #[.int .i64 q.kind, .int .i64 q.frm, .int .i64 q.til, .string ⟨q.nm.toArray⟩, .int .i64 q.num, .string ⟨q.s.toArray⟩, .slice xa q.kids.length xc] 50) := by rw [← hW2]; exact allocs_get _ wr 0 _ rfl
      have hx1 : W2.heap[wr.heap.size + 1]? = some (Obj.cells #[.int .i64 s.kind, .int .i64 s.frm, .int .i64 s.til, .string ⟨s.nm.toArray⟩, .int .i64 s.num, .string ⟨s.s.toArray⟩, .slice ya s.kids.length yc] 50) := by rw [← hW2]; exact allocs_get _ wr 1 _ rfl
      have k0 := cell_box (i := 0) hx0 rfl rfl
      have k1 := cell_box (i := 1) hx0 rfl rfl
      have k2 := cell_box (i := 2) hx0 rfl rfl
      have k3 := cell_box (i := 3) hx0 rfl rfl
      have k4 := cell_box (i := 4) hx0 rfl rfl
      have k5 := cell_box (i := 5) hx0 rfl rfl
      have k6 := cell_box (i := 6) hx0 rfl rfl
      have m0 := cell_box (i := 0) hx1 rfl rfl
      have m1 := cell_box (i := 1) hx1 rfl rfl
      have m2 := cell_box (i := 2) hx1 rfl rfl
      have m3 := cell_box (i := 3) hx1 rfl rfl
      have m4 := cell_box (i := 4) hx1 rfl rfl
      have m5 := cell_box (i := 5) hx1 rfl rfl
      have m6 := cell_box (i := 6) hx1 rfl rfl
      simp only [List.getElem_toArray, List.getElem_cons_zero, List.getElem_cons_succ] at k0 k1 k2 k3 k4 k5 k6 m0 m1 m2 m3 m4 m5 m6
      have HC2 := Lib.hid hcall2; have HA2 := Lib.hid hal2
      clear hcall2 hal2 hx0 hx1 hW2 hW2' e0 e1 e2 e3 e4 e5 e6 g0 g1 g2 g3 g4 g5 g6
      cases bq with
      | false =>
        go_wp2_with (go_at_call 99; with_reducible refine HC2.out.mono ?_; rintro e w1 ⟨rfl, hb1⟩; have HB1 := Lib.hid hb1; clear hb1)
        go_ret
        exact ⟨by rw [HNOT.out (by simp)]; rfl, HA2.out.trans (HB1.out.mono HA2.out.size)⟩
      | true =>
        go_wp2_with (go_at_call 99; with_reducible refine HC2.out.mono ?_; rintro e w1 ⟨rfl, hb1⟩; have HB1 := Lib.hid hb1; clear hb1)
        go_roundg (n1 - (i + 1))
        case measure => omega
        case rel => exact ⟨i + 1, by first | rfl | go_num, by omega, HAT.out, HA2.out.trans (HB1.out.mono HA2.out.size), rfl⟩
    · obtain rfl : i = n1 := by omega
      have hall := HALL.out
      rw [List.take_of_length_le (by rw [List.length_zip, HN1.out, HN2.out]; omega), ← Tr.sames_zip] at hall
      have hyes : Ex.patsAlike l m = true := by unfold Ex.patsAlike; rw [HN1.out, HN2.out, hall]; simp
      have HYES := Lib.hid hyes
      clear hall hyes
      go_wp2_with fail
      go_ret
      exact ⟨by rw [HYES.out]; rfl, HB.out⟩
end Go.Proofs.YtmmhpibkjdlkgaaGreat
namespace Go.Proofs.YtmmhpibkjdlkgaaGreat
open Go Go.RowKit Go.Shelf
open Ex (E)

theorem eqL {x y : List UInt8} {b : Bool} (h : (decide (x = y)) = b) : (x == y) = b := by rw [← h]; exact Bool.eq_iff_iff.2 (by simp)
theorem eqN {x y : Nat} {b : Bool} (h : (decide (x = y)) = b) : ((x : Int) == (y : Int)) = b := by
  rw [← h]; refine Bool.eq_iff_iff.2 ?_
  rw [beq_iff_eq, decide_eq_true_iff]; omega
set_option maxRecDepth 100000 in
set_option maxHeartbeats 4000000 in
theorem alikeE_any (b o b' o' : Nat) (x y : E) (w : World) (hb : b < w.heap.size ∧ b' < w.heap.size) (h1 : ENode (LT w.heap.size) w x b o) (h2 : ENode (LT w.heap.size) w y b' o') (hf : Tp.size x.a ≤ 10000 ∧ Tp.size x.b ≤ 10000 ∧ ∀ p ∈ x.pats, Tr.size p ≤ 10000) :
    Calls Tryz.prog 61 #[.pointer (some ⟨b, o, none⟩), .pointer (some ⟨b', o', none⟩)] w fun e w' => e = .returned (.bool (Ex.alike x y)) ∧ Below w.heap.size w w' := by
  obtain ⟨s, hat, hcs⟩ := h1.parts
  obtain ⟨t, hat', hcs'⟩ := h2.parts
  have hal : Ex.alike x y = (decide (x.kind = y.kind) && decide (x.nm = y.nm) && decide (x.ar = y.ar) && decide (x.num = y.num) && decide (x.s = y.s) && decide (x.op = y.op) && Tp.same x.a y.a && Tp.same x.b y.b && Ex.patsAlike x.pats y.pats && decide (x.kids.length = y.kids.length)) := rfl
  have hsa : ∀ W, Below w.heap.size w W → _ := fun W hbw => same_any x.a y.a s.aa s.ac t.aa t.ac W hf.1 (hat.ta.below hbw (fun _ h => h) (fun _ h => Nat.lt_of_lt_of_le h hbw.size)) (hat'.ta.below hbw (fun _ h => h) (fun _ h => Nat.lt_of_lt_of_le h hbw.size))
  have hsb : ∀ W, Below w.heap.size w W → _ := fun W hbw => same_any x.b y.b s.ba s.bc t.ba t.bc W hf.2.1 (hat.tb.below hbw (fun _ h => h) (fun _ h => Nat.lt_of_lt_of_le h hbw.size)) (hat'.tb.below hbw (fun _ h => h) (fun _ h => Nat.lt_of_lt_of_le h hbw.size))
  have hsp : ∀ W, Below w.heap.size w W → _ := fun W hbw => equalPats_any x.pats y.pats s.pa t.pa s.pc t.pc W hf.2.2 hat.lp hat'.lp (PKids.mono (fun b o h => hbw.cell (p := ⟨b, o, none⟩) h) (fun b h => Nat.lt_of_lt_of_le h hbw.size) _ _ hat.ps) (PKids.mono (fun b o h => hbw.cell (p := ⟨b, o, none⟩) h) (fun b h => Nat.lt_of_lt_of_le h hbw.size) _ _ hat'.ps)
  unfold tv at hsa hsb
  have e0 : w.cell? ⟨b, o, none⟩ = some (.int .i64 x.kind) := hcs 0 _ rfl
  have e3 : w.cell? ⟨b, o + 3, none⟩ = some (.string ⟨x.nm.toArray⟩) := hcs 3 _ rfl
  have e4 : w.cell? ⟨b, o + 4, none⟩ = some (.string ⟨x.ar.toArray⟩) := hcs 4 _ rfl
  have e5 : w.cell? ⟨b, o + 5, none⟩ = some (.int .i64 x.num) := hcs 5 _ rfl
  have e6 : w.cell? ⟨b, o + 6, none⟩ = some (.string ⟨x.s.toArray⟩) := hcs 6 _ rfl
  have e7 : w.cell? ⟨b, o + 7, none⟩ = some (.int .i64 x.op) := hcs 7 _ rfl
  have e8 : w.cell? ⟨b, o + 8, none⟩ = some (.int .i64 x.a.kind) := hcs 8 _ rfl
  have e9 : w.cell? ⟨b, o + 9, none⟩ = some (.int .i64 x.a.num) := hcs 9 _ rfl
  have e10 : w.cell? ⟨b, o + 10, none⟩ = some (.slice s.aa x.a.kids.length s.ac) := hcs 10 _ rfl
  have e11 : w.cell? ⟨b, o + 11, none⟩ = some (.int .i64 x.b.kind) := hcs 11 _ rfl
  have e12 : w.cell? ⟨b, o + 12, none⟩ = some (.int .i64 x.b.num) := hcs 12 _ rfl
  have e13 : w.cell? ⟨b, o + 13, none⟩ = some (.slice s.ba x.b.kids.length s.bc) := hcs 13 _ rfl
  have e14 : w.cell? ⟨b, o + 14, none⟩ = some (.slice s.pa x.pats.length s.pc) := hcs 14 _ rfl
  have e15 : w.cell? ⟨b, o + 15, none⟩ = some (.slice s.ka x.kids.length s.kc) := hcs 15 _ rfl
  have f0 : w.cell? ⟨b', o', none⟩ = some (.int .i64 y.kind) := hcs' 0 _ rfl
  have f3 : w.cell? ⟨b', o' + 3, none⟩ = some (.string ⟨y.nm.toArray⟩) := hcs' 3 _ rfl
  have f4 : w.cell? ⟨b', o' + 4, none⟩ = some (.string ⟨y.ar.toArray⟩) := hcs' 4 _ rfl
  have f5 : w.cell? ⟨b', o' + 5, none⟩ = some (.int .i64 y.num) := hcs' 5 _ rfl
  have f6 : w.cell? ⟨b', o' + 6, none⟩ = some (.string ⟨y.s.toArray⟩) := hcs' 6 _ rfl
  have f7 : w.cell? ⟨b', o' + 7, none⟩ = some (.int .i64 y.op) := hcs' 7 _ rfl
  have f8 : w.cell? ⟨b', o' + 8, none⟩ = some (.int .i64 y.a.kind) := hcs' 8 _ rfl
  have f9 : w.cell? ⟨b', o' + 9, none⟩ = some (.int .i64 y.a.num) := hcs' 9 _ rfl
  have f10 : w.cell? ⟨b', o' + 10, none⟩ = some (.slice t.aa y.a.kids.length t.ac) := hcs' 10 _ rfl
  have f11 : w.cell? ⟨b', o' + 11, none⟩ = some (.int .i64 y.b.kind) := hcs' 11 _ rfl
  have f12 : w.cell? ⟨b', o' + 12, none⟩ = some (.int .i64 y.b.num) := hcs' 12 _ rfl
  have f13 : w.cell? ⟨b', o' + 13, none⟩ = some (.slice t.ba y.b.kids.length t.bc) := hcs' 13 _ rfl
  have f14 : w.cell? ⟨b', o' + 14, none⟩ = some (.slice t.pa y.pats.length t.pc) := hcs' 14 _ rfl
  have f15 : w.cell? ⟨b', o' + 15, none⟩ = some (.slice t.ka y.kids.length t.kc) := hcs' 15 _ rfl
  obtain ⟨bk, hbk⟩ : ∃ q, decide (x.kind = y.kind) = q := ⟨_, rfl⟩
  obtain ⟨bn, hbn⟩ : ∃ q, decide (x.nm = y.nm) = q := ⟨_, rfl⟩
  obtain ⟨ba, hba⟩ : ∃ q, decide (x.ar = y.ar) = q := ⟨_, rfl⟩
  obtain ⟨bx, hbx⟩ : ∃ q, decide (x.num = y.num) = q := ⟨_, rfl⟩
  obtain ⟨bs, hbs⟩ : ∃ q, decide (x.s = y.s) = q := ⟨_, rfl⟩
  obtain ⟨bo, hbo⟩ : ∃ q, decide (x.op = y.op) = q := ⟨_, rfl⟩
  obtain ⟨ta, hta⟩ : ∃ q, Tp.same x.a y.a = q := ⟨_, rfl⟩
  obtain ⟨tb, htb⟩ : ∃ q, Tp.same x.b y.b = q := ⟨_, rfl⟩
  obtain ⟨pe, hpe⟩ : ∃ q, Ex.patsAlike x.pats y.pats = q := ⟨_, rfl⟩
  obtain ⟨bl, hbl⟩ : ∃ q, decide (x.kids.length = y.kids.length) = q := ⟨_, rfl⟩
  rw [hbk, hbn, hba, hbx, hbs, hbo, hta, htb, hpe, hbl] at hal
  rw [hta] at hsa
  rw [htb] at hsb
  rw [hpe] at hsp
  have g1 := eqB hbk
  have g2 := eqL hbn
  have g3 := eqL hba
  have g4 := eqB hbx
  have g5 := eqL hbs
  have g6 := eqB hbo
  have g7 := eqN hbl
  have HAL := Lib.hid hal
  have HSA := Lib.hid hsa; have HSB := Lib.hid hsb; have HSP := Lib.hid hsp; have HLT := Lib.hid hb
  have HB0 := Lib.hid ((Below.refl w.heap.size w).drew)
  have HLE := Lib.hid (fun (W : World) (h : Below w.heap.size w W) => h.size)
  clear hal hsa hsb hsp hta htb hpe hbk hbn hba hbx hbs hbo hbl hcs hcs' hat hat' h1 h2 hf hb
  generalize x.kind = k1 at *
  generalize y.kind = k2 at *
  generalize x.nm = n1 at *
  generalize y.nm = n2 at *
  generalize x.ar = r1 at *
  generalize y.ar = r2 at *
  generalize x.num = x1 at *
  generalize y.num = x2 at *
  generalize x.s = s1 at *
  generalize y.s = s2 at *
  generalize x.op = o1 at *
  generalize y.op = o2 at *
  have E0 := Lib.hid e0
  have E3 := Lib.hid e3
  have E4 := Lib.hid e4
  have E5 := Lib.hid e5
  have E6 := Lib.hid e6
  have E7 := Lib.hid e7
  have E8 := Lib.hid e8
  have E9 := Lib.hid e9
  have E10 := Lib.hid e10
  have E11 := Lib.hid e11
  have E12 := Lib.hid e12
  have E13 := Lib.hid e13
  have E14 := Lib.hid e14
  have E15 := Lib.hid e15
  have F0 := Lib.hid f0
  have F3 := Lib.hid f3
  have F4 := Lib.hid f4
  have F5 := Lib.hid f5
  have F6 := Lib.hid f6
  have F7 := Lib.hid f7
  have F8 := Lib.hid f8
  have F9 := Lib.hid f9
  have F10 := Lib.hid f10
  have F11 := Lib.hid f11
  have F12 := Lib.hid f12
  have F13 := Lib.hid f13
  have F14 := Lib.hid f14
  have F15 := Lib.hid f15
  clear e0 e3 e4 e5 e6 e7 e8 e9 e10 e11 e12 e13 e14 e15 f0 f3 f4 f5 f6 f7 f8 f9 f10 f11 f12 f13 f14 f15
  go_enter Tryz.func61, Tryz.ntmps61
  go_upto_region 1 with fail
  dsimp only [List.append]
  refine wp_region_line (plan := [(0, false), (0, false), (0, false), (0, false), (0, false), (0, false), (0, false), (0, false), (0, false), (0, false), (0, false), (0, false), (0, false), (0, false), (0, false), (0, false), (0, false), (0, false), (0, false), (0, false), (0, false), (0, false), (0, false), (0, false), (0, false), (0, false), (0, false), (0, false), (0, false), (0, false), (0, false), (0, false), (0, false), (0, false), (0, false), (0, false), (0, false), (0, false), (0, false), (0, false), (0, false), (0, false), (0, false), (0, false), (0, false), (0, false), (0, false), (0, false), (0, false), (0, false), (0, false), (0, false), (0, false), (0, false), (0, false), (0, false), (0, false), (0, false), (0, false), (0, false), (0, false), (0, false), (0, false), (0, false), (0, false), (0, false), (0, false), (0, false), (0, false), (0, false), (0, false), (0, false), (0, false), (0, true), (0, false), (0, false), (0, false), (0, false), (0, false), (0, false), (0, false), (0, false), (0, false), (0, false), (0, true), (0, false), (0, false), (0, false), (0, false), (0, false), (0, false), (0, false), (0, false), (0, false), (0, false), (0, true), (0, false), (0, false), (0, false), (0, false), (0, false), (0, false), (0, false), (0, false), (0, false), (0, false), (0, false), (0, false), (0, false), (0, false), (0, false)]) (tab := [(0, 32, 1, 0), (1, 64, 32, 1), (2, 128, 64, 2), (3, 256, 128, 4), (4, 512, 2, 0), (5, 1024, 512, 16), (6, 2048, 1024, 32), (7, 4096, 2048, 64), (8, 8192, 4352, 136), (9, 16384, 8192, 256), (10, 32768, 16385, 512), (11, 65536, 49152, 1536), (12, 131072, 81920, 2560), (13, 262144, 147456, 4608), (14, 524288, 16386, 512), (15, 1048576, 540672, 16896), (16, 2097152, 1064960, 33280), (17, 4194304, 2113536, 66048), (18, 8388608, 4472832, 139776), (19, 16777216, 8404992, 262656), (20, 33554432, 16777216, 524800), (21, 67108864, 33554433, 1048576), (22, 134217728, 100663296, 3145728), (23, 268435456, 167772160, 5242880), (24, 536870912, 301989888, 9437184), (25, 1073741824, 33554434, 1048576), (26, 2147483648, 1107296256, 34603008), (27, 4294967296, 2181038080, 68157440), (28, 8589934592, 4328521728, 135266304), (29, 17179869184, 9160359936, 286261248), (30, 34359738368, 17213423616, 537919488), (31, 68719476736, 34359738368, 1074790400), (32, 137438953472, 68719476737, 2147483648), (33, 274877906944, 206158430208, 6442450944), (34, 549755813888, 343597383680, 10737418240), (35, 1099511627776, 618475290624, 19327352832), (36, 2199023255552, 68719476738, 2147483648), (37, 4398046511104, 2267742732288, 70866960384), (38, 8796093022208, 4466765987840, 139586437120), (39, 17592186044416, 8864812498944, 277025390592), (40, 35184372088832, 18760417148928, 586263035904), (41, 70368744177664, 35253091565568, 1101659111424), (42, 140737488355328, 70368744177664, 2201170739200), (43, 281474976710656, 140737488355329, 4398046511104), (44, 562949953421312, 422212465065984, 13194139533312), (45, 1125899906842624, 703687441776640, 21990232555520), (46, 2251799813685248, 1266637395197952, 39582418599936), (47, 4503599627370496, 140737488355330, 4398046511104), (48, 9007199254740992, 4644337115725824, 145135534866432), (49, 18014398509481984, 9147936743096320, 285873023221760), (50, 36028797018963968, 18155135997837312, 567347999932416), (51, 72057594037927936, 38421334321004544, 1200666697531392), (52, 144115188075855872, 72198331526283264, 2256197860196352), (53, 288230376151711744, 144115188075855872, 4507997673881600), (54, 576460752303423488, 288230376151711745, 9007199254740992), (55, 1152921504606846976, 864691128455135232, 27021597764222976), (56, 2305843009213693952, 1441151880758558720, 45035996273704960), (57, 4611686018427387904, 2594073385365405696, 81064793292668928), (58, 9223372036854775808, 288230376151711746, 9007199254740992), (59, 18446744073709551616, 9511602413006487552, 297237575406452736), (60, 36893488147419103232, 18734974449861263360, 585467951558164480), (61, 73786976294838206464, 37181718523570814976, 1161928703861587968), (62, 147573952589676412928, 78686892689417306112, 2458965396544290816), (63, 295147905179352825856, 147862182965828124672, 4620693217682128896), (64, 590295810358705651712, 295147905179352825856, 9232379236109516800), (65, 1180591620717411303424, 590295810358705651713, 18446744073709551616), (66, 2361183241434822606848, 1770887431076116955136, 55340232221128654848), (67, 4722366482869645213696, 2951479051793528258560, 92233720368547758080), (68, 9444732965739290427392, 5312662293228350865408, 166020696663385964544), (69, 18889465931478580854784, 590295810358705651714, 18446744073709551616), (70, 37778931862957161709568, 19479761741837286506496, 608742554432415203328), (71, 75557863725914323419136, 38369227673315867361280, 1199038364791120855040), (72, 151115727451828646838272, 76148159536273029070848, 2379629985508532158464), (73, 302231454903657293676544, 161150756227926642917376, 5035961132122707591168), (74, 604462909807314587353088, 302821750714015999328256, 9463179709812999979008), (75, 1208925819614629174706176, 604462909807314587353088, 28334198897217871282176), (76, 2417851639229258349412352, 1208925819614629174706177, 37778931862957161709568), (77, 4835703278458516698824704, 3626777458843887524118528, 113336795588871485128704), (78, 9671406556917033397649408, 6044629098073145873530880, 188894659314785808547840), (79, 19342813113834066795298816, 10880332376531662572355584, 340010386766614455386112), (80, 38685626227668133590597632, 1208925819614629174706178, 37778931862957161709568), (81, 77371252455336267181195264, 39894552047282762765303808, 1246704751477586336415744), (82, 154742504910672534362390528, 78580178274950896355901440, 2455630571092215511121920), (83, 309485009821345068724781056, 155951430730287163537096704, 4873482210321473860534272), (84, 618970019642690137449562112, 330036748754793764694786048, 10313648398587305146712064), (85, 1237940039285380274899124224, 620178945462304766624268288, 19380592045697023957008384), (86, 2475880078570760549798248448, 1237940039285380274899124224, 58028439341502200385896448), (87, 4951760157141521099596496896, 2475880078570760549798248449, 77371252455336267181195264), (88, 9903520314283042199192993792, 7427640235712281649394745344, 232113757366008801543585792), (89, 19807040628566084398385987584, 12379400392853802748991242240, 386856262276681335905976320), (90, 39614081257132168796771975168, 22282920707136844948184236032, 696341272098026404630757376), (91, 79228162514264337593543950336, 2475880078570760549798248450, 77371252455336267181195264), (92, 158456325028528675187087900672, 81704042592835098143342198784, 2553251331026096816979443712), (93, 316912650057057350374175801344, 160932205107099435736886149120, 5029131409596857366777692160), (94, 633825300114114700748351602688, 319388530135628110923974049792, 9980891566738378466374189056), (95, 1267650600228229401496703205376, 675915261449817630094921826304, 21122351920306800940466307072), (96, 2535301200456458802993406410752, 1270126480306800162046501453824, 39691452509587505063953170432), (97, 5070602400912917605986812821504, 2535301200456458802993406410752, 118842243771396506390315925504), (98, 10141204801825835211973625643008, 5070602400912917605986812821505, 158456325028528675187087900672), (99, 20282409603651670423947251286016, 15211807202738752817960438464512, 475368975085586025561263702016), (100, 40564819207303340847894502572032, 25353012004564588029934064107520, 792281625142643375935439503360), (101, 81129638414606681695789005144064, 45635421608216258453881315393536, 1426106925256758076683791106048), (102, 162259276829213363391578010288128, 86200240815519599301775817965568, 2693757525484987478180494311424), (103, 324518553658426726783156020576256, 5070602400912917605986812821506, 158456325028528675187087900672), (104, 649037107316853453566312041152512, 329589156059339644389142833397760, 10299661126854363887160713543680), (105, 1298074214633706907132624082305024, 654107709717766371172298853974016, 20440865928680199099134339186688), (106, 2596148429267413814265248164610048, 1303144817034619824738610895126528, 40723275532331869523081590472704), (107, 5192296858534827628530496329220096, 2601219031668326731871234977431552, 81288094739635210370976093044736), (108, 10384593717069655257060992658440192, 5359626737764953909528061152329728, 167488335555154809672751911010304), (109, 20769187434139310514121985316880384, 10389664319470568174666979471261696, 324677009983455255458343108476928), (110, 16, 20769187434139310514121985316880384, 1298074214633706907132624082305023)]) (by kernel_rfl) (by kernel_rfl) (by kernel_rfl) (by kernel_rfl) (fun _ _ _ d _ h => by cases d <;> exact h) ?_
  have e0 := (HB0.out.cell (p := ⟨b, o, none⟩) HLT.out.1).trans E0.out
  have f0 := (HB0.out.cell (p := ⟨b', o', none⟩) HLT.out.2).trans F0.out
  repeat
    first
    | (first | with_reducible refine sp0 (fun K hK => ?_) | with_reducible refine sp1 (fun K hK => ?_) | with_reducible refine sp2 (fun K hK => ?_) | with_reducible refine sp3 (fun K hK => ?_) | with_reducible refine sp4 (fun K hK => ?_)
       go_simp
       first
       | (with_reducible refine hK _ _ ?_; clear hK K)
       | (with_reducible apply Exists.intro
          refine ⟨fun x hx => ?_, hK _ _ ?_⟩
          first
            | (with_reducible exact rfl)
            | (have y0 := keepc hx e0; have y1 := keepc hx f0; go_simp; done)
            | (have y0 := keepc hx e0; have y1 := keepc hx f0; go_simp; with_reducible exact rfl)
          clear hK K))
    | (first | with_reducible refine sk0 ?_ (fun K hK => ?_) | with_reducible refine sk1 ?_ (fun K hK => ?_) | with_reducible refine sk2 ?_ (fun K hK => ?_) | with_reducible refine sk3 ?_ (fun K hK => ?_) | with_reducible refine sk4 ?_ (fun K hK => ?_)
       rfl
       go_simp
       with_reducible refine hK _ _ ?_
       clear hK K)
  cases bk
  · skip
    repeat
      first
      | (first | with_reducible refine sp0 (fun K hK => ?_) | with_reducible refine sp1 (fun K hK => ?_) | with_reducible refine sp2 (fun K hK => ?_) | with_reducible refine sp3 (fun K hK => ?_) | with_reducible refine sp4 (fun K hK => ?_)
         go_simp
         first
         | (with_reducible refine hK _ _ ?_; clear hK K)
         | (with_reducible apply Exists.intro
            refine ⟨fun x hx => ?_, hK _ _ ?_⟩
            first
              | (with_reducible exact rfl)
            clear hK K))
      | (first | with_reducible refine sk0 ?_ (fun K hK => ?_) | with_reducible refine sk1 ?_ (fun K hK => ?_) | with_reducible refine sk2 ?_ (fun K hK => ?_) | with_reducible refine sk3 ?_ (fun K hK => ?_) | with_reducible refine sk4 ?_ (fun K hK => ?_)
         rfl
         go_simp
         with_reducible refine hK _ _ ?_
         clear hK K)
    with_reducible refine seq_nil ?_
    go_wp2_with fail
    go_ret
    exact ⟨by rw [HAL.out]; first | rfl | simp, (Below.refl _ _).drew⟩
  clear e0 f0
  have e3 := (HB0.out.cell (p := ⟨b, o + 3, none⟩) HLT.out.1).trans E3.out
  have f3 := (HB0.out.cell (p := ⟨b', o' + 3, none⟩) HLT.out.2).trans F3.out
  repeat
    first
    | (first | with_reducible refine sp0 (fun K hK => ?_) | with_reducible refine sp1 (fun K hK => ?_) | with_reducible refine sp2 (fun K hK => ?_) | with_reducible refine sp3 (fun K hK => ?_) | with_reducible refine sp4 (fun K hK => ?_)
       go_simp
       first
       | (with_reducible refine hK _ _ ?_; clear hK K)
       | (with_reducible apply Exists.intro
          refine ⟨fun x hx => ?_, hK _ _ ?_⟩
          first
            | (with_reducible exact rfl)
            | (have y0 := keepc hx e3; have y1 := keepc hx f3; go_simp; done)
            | (have y0 := keepc hx e3; have y1 := keepc hx f3; go_simp; with_reducible exact rfl)
          clear hK K))
    | (first | with_reducible refine sk0 ?_ (fun K hK => ?_) | with_reducible refine sk1 ?_ (fun K hK => ?_) | with_reducible refine sk2 ?_ (fun K hK => ?_) | with_reducible refine sk3 ?_ (fun K hK => ?_) | with_reducible refine sk4 ?_ (fun K hK => ?_)
       rfl
       go_simp
       with_reducible refine hK _ _ ?_
       clear hK K)
  cases bn
  · skip
    repeat
      first
      | (first | with_reducible refine sp0 (fun K hK => ?_) | with_reducible refine sp1 (fun K hK => ?_) | with_reducible refine sp2 (fun K hK => ?_) | with_reducible refine sp3 (fun K hK => ?_) | with_reducible refine sp4 (fun K hK => ?_)
         go_simp
         first
         | (with_reducible refine hK _ _ ?_; clear hK K)
         | (with_reducible apply Exists.intro
            refine ⟨fun x hx => ?_, hK _ _ ?_⟩
            first
              | (with_reducible exact rfl)
            clear hK K))
      | (first | with_reducible refine sk0 ?_ (fun K hK => ?_) | with_reducible refine sk1 ?_ (fun K hK => ?_) | with_reducible refine sk2 ?_ (fun K hK => ?_) | with_reducible refine sk3 ?_ (fun K hK => ?_) | with_reducible refine sk4 ?_ (fun K hK => ?_)
         rfl
         go_simp
         with_reducible refine hK _ _ ?_
         clear hK K)
    with_reducible refine seq_nil ?_
    go_wp2_with fail
    go_ret
    exact ⟨by rw [HAL.out]; first | rfl | simp, (Below.refl _ _).drew⟩
  clear e3 f3
  have e4 := (HB0.out.cell (p := ⟨b, o + 4, none⟩) HLT.out.1).trans E4.out
  have f4 := (HB0.out.cell (p := ⟨b', o' + 4, none⟩) HLT.out.2).trans F4.out
  repeat
    first
    | (first | with_reducible refine sp0 (fun K hK => ?_) | with_reducible refine sp1 (fun K hK => ?_) | with_reducible refine sp2 (fun K hK => ?_) | with_reducible refine sp3 (fun K hK => ?_) | with_reducible refine sp4 (fun K hK => ?_)
       go_simp
       first
       | (with_reducible refine hK _ _ ?_; clear hK K)
       | (with_reducible apply Exists.intro
          refine ⟨fun x hx => ?_, hK _ _ ?_⟩
          first
            | (with_reducible exact rfl)
            | (have y0 := keepc hx e4; have y1 := keepc hx f4; go_simp; done)
            | (have y0 := keepc hx e4; have y1 := keepc hx f4; go_simp; with_reducible exact rfl)
          clear hK K))
    | (first | with_reducible refine sk0 ?_ (fun K hK => ?_) | with_reducible refine sk1 ?_ (fun K hK => ?_) | with_reducible refine sk2 ?_ (fun K hK => ?_) | with_reducible refine sk3 ?_ (fun K hK => ?_) | with_reducible refine sk4 ?_ (fun K hK => ?_)
       rfl
       go_simp
       with_reducible refine hK _ _ ?_
       clear hK K)
  cases ba
  · skip
    repeat
      first
      | (first | with_reducible refine sp0 (fun K hK => ?_) | with_reducible refine sp1 (fun K hK => ?_) | with_reducible refine sp2 (fun K hK => ?_) | with_reducible refine sp3 (fun K hK => ?_) | with_reducible refine sp4 (fun K hK => ?_)
         go_simp
         first
         | (with_reducible refine hK _ _ ?_; clear hK K)
         | (with_reducible apply Exists.intro
            refine ⟨fun x hx => ?_, hK _ _ ?_⟩
            first
              | (with_reducible exact rfl)
            clear hK K))
      | (first | with_reducible refine sk0 ?_ (fun K hK => ?_) | with_reducible refine sk1 ?_ (fun K hK => ?_) | with_reducible refine sk2 ?_ (fun K hK => ?_) | with_reducible refine sk3 ?_ (fun K hK => ?_) | with_reducible refine sk4 ?_ (fun K hK => ?_)
         rfl
         go_simp
         with_reducible refine hK _ _ ?_
         clear hK K)
    with_reducible refine seq_nil ?_
    go_wp2_with fail
    go_ret
    exact ⟨by rw [HAL.out]; first | rfl | simp, (Below.refl _ _).drew⟩
  clear e4 f4
  have e5 := (HB0.out.cell (p := ⟨b, o + 5, none⟩) HLT.out.1).trans E5.out
  have f5 := (HB0.out.cell (p := ⟨b', o' + 5, none⟩) HLT.out.2).trans F5.out
  repeat
    first
    | (first | with_reducible refine sp0 (fun K hK => ?_) | with_reducible refine sp1 (fun K hK => ?_) | with_reducible refine sp2 (fun K hK => ?_) | with_reducible refine sp3 (fun K hK => ?_) | with_reducible refine sp4 (fun K hK => ?_)
       go_simp
       first
       | (with_reducible refine hK _ _ ?_; clear hK K)
       | (with_reducible apply Exists.intro
          refine ⟨fun x hx => ?_, hK _ _ ?_⟩
          first
            | (with_reducible exact rfl)
            | (have y0 := keepc hx e5; have y1 := keepc hx f5; go_simp; done)
            | (have y0 := keepc hx e5; have y1 := keepc hx f5; go_simp; with_reducible exact rfl)
          clear hK K))
    | (first | with_reducible refine sk0 ?_ (fun K hK => ?_) | with_reducible refine sk1 ?_ (fun K hK => ?_) | with_reducible refine sk2 ?_ (fun K hK => ?_) | with_reducible refine sk3 ?_ (fun K hK => ?_) | with_reducible refine sk4 ?_ (fun K hK => ?_)
       rfl
       go_simp
       with_reducible refine hK _ _ ?_
       clear hK K)
  cases bx
  · skip
    repeat
      first
      | (first | with_reducible refine sp0 (fun K hK => ?_) | with_reducible refine sp1 (fun K hK => ?_) | with_reducible refine sp2 (fun K hK => ?_) | with_reducible refine sp3 (fun K hK => ?_) | with_reducible refine sp4 (fun K hK => ?_)
         go_simp
         first
         | (with_reducible refine hK _ _ ?_; clear hK K)
         | (with_reducible apply Exists.intro
            refine ⟨fun x hx => ?_, hK _ _ ?_⟩
            first
              | (with_reducible exact rfl)
            clear hK K))
      | (first | with_reducible refine sk0 ?_ (fun K hK => ?_) | with_reducible refine sk1 ?_ (fun K hK => ?_) | with_reducible refine sk2 ?_ (fun K hK => ?_) | with_reducible refine sk3 ?_ (fun K hK => ?_) | with_reducible refine sk4 ?_ (fun K hK => ?_)
         rfl
         go_simp
         with_reducible refine hK _ _ ?_
         clear hK K)
    with_reducible refine seq_nil ?_
    go_wp2_with fail
    go_ret
    exact ⟨by rw [HAL.out]; first | rfl | simp, (Below.refl _ _).drew⟩
  clear e5 f5
  have e6 := (HB0.out.cell (p := ⟨b, o + 6, none⟩) HLT.out.1).trans E6.out
  have f6 := (HB0.out.cell (p := ⟨b', o' + 6, none⟩) HLT.out.2).trans F6.out
  repeat
    first
    | (first | with_reducible refine sp0 (fun K hK => ?_) | with_reducible refine sp1 (fun K hK => ?_) | with_reducible refine sp2 (fun K hK => ?_) | with_reducible refine sp3 (fun K hK => ?_) | with_reducible refine sp4 (fun K hK => ?_)
       go_simp
       first
       | (with_reducible refine hK _ _ ?_; clear hK K)
       | (with_reducible apply Exists.intro
          refine ⟨fun x hx => ?_, hK _ _ ?_⟩
          first
            | (with_reducible exact rfl)
            | (have y0 := keepc hx e6; have y1 := keepc hx f6; go_simp; done)
            | (have y0 := keepc hx e6; have y1 := keepc hx f6; go_simp; with_reducible exact rfl)
          clear hK K))
    | (first | with_reducible refine sk0 ?_ (fun K hK => ?_) | with_reducible refine sk1 ?_ (fun K hK => ?_) | with_reducible refine sk2 ?_ (fun K hK => ?_) | with_reducible refine sk3 ?_ (fun K hK => ?_) | with_reducible refine sk4 ?_ (fun K hK => ?_)
       rfl
       go_simp
       with_reducible refine hK _ _ ?_
       clear hK K)
  cases bs
  · skip
    repeat
      first
      | (first | with_reducible refine sp0 (fun K hK => ?_) | with_reducible refine sp1 (fun K hK => ?_) | with_reducible refine sp2 (fun K hK => ?_) | with_reducible refine sp3 (fun K hK => ?_) | with_reducible refine sp4 (fun K hK => ?_)
         go_simp
         first
         | (with_reducible refine hK _ _ ?_; clear hK K)
         | (with_reducible apply Exists.intro
            refine ⟨fun x hx => ?_, hK _ _ ?_⟩
            first
              | (with_reducible exact rfl)
            clear hK K))
      | (first | with_reducible refine sk0 ?_ (fun K hK => ?_) | with_reducible refine sk1 ?_ (fun K hK => ?_) | with_reducible refine sk2 ?_ (fun K hK => ?_) | with_reducible refine sk3 ?_ (fun K hK => ?_) | with_reducible refine sk4 ?_ (fun K hK => ?_)
         rfl
         go_simp
         with_reducible refine hK _ _ ?_
         clear hK K)
    with_reducible refine seq_nil ?_
    go_wp2_with fail
    go_ret
    exact ⟨by rw [HAL.out]; first | rfl | simp, (Below.refl _ _).drew⟩
  clear e6 f6
  have e7 := (HB0.out.cell (p := ⟨b, o + 7, none⟩) HLT.out.1).trans E7.out
  have f7 := (HB0.out.cell (p := ⟨b', o' + 7, none⟩) HLT.out.2).trans F7.out
  repeat
    first
    | (first | with_reducible refine sp0 (fun K hK => ?_) | with_reducible refine sp1 (fun K hK => ?_) | with_reducible refine sp2 (fun K hK => ?_) | with_reducible refine sp3 (fun K hK => ?_) | with_reducible refine sp4 (fun K hK => ?_)
       go_simp
       first
       | (with_reducible refine hK _ _ ?_; clear hK K)
       | (with_reducible apply Exists.intro
          refine ⟨fun x hx => ?_, hK _ _ ?_⟩
          first
            | (with_reducible exact rfl)
            | (have y0 := keepc hx e7; have y1 := keepc hx f7; go_simp; done)
            | (have y0 := keepc hx e7; have y1 := keepc hx f7; go_simp; with_reducible exact rfl)
          clear hK K))
    | (first | with_reducible refine sk0 ?_ (fun K hK => ?_) | with_reducible refine sk1 ?_ (fun K hK => ?_) | with_reducible refine sk2 ?_ (fun K hK => ?_) | with_reducible refine sk3 ?_ (fun K hK => ?_) | with_reducible refine sk4 ?_ (fun K hK => ?_)
       rfl
       go_simp
       with_reducible refine hK _ _ ?_
       clear hK K)
  cases bo
  · skip
    repeat
      first
      | (first | with_reducible refine sp0 (fun K hK => ?_) | with_reducible refine sp1 (fun K hK => ?_) | with_reducible refine sp2 (fun K hK => ?_) | with_reducible refine sp3 (fun K hK => ?_) | with_reducible refine sp4 (fun K hK => ?_)
         go_simp
         first
         | (with_reducible refine hK _ _ ?_; clear hK K)
         | (with_reducible apply Exists.intro
            refine ⟨fun x hx => ?_, hK _ _ ?_⟩
            first
              | (with_reducible exact rfl)
            clear hK K))
      | (first | with_reducible refine sk0 ?_ (fun K hK => ?_) | with_reducible refine sk1 ?_ (fun K hK => ?_) | with_reducible refine sk2 ?_ (fun K hK => ?_) | with_reducible refine sk3 ?_ (fun K hK => ?_) | with_reducible refine sk4 ?_ (fun K hK => ?_)
         rfl
         go_simp
         with_reducible refine hK _ _ ?_
         clear hK K)
    with_reducible refine seq_nil ?_
    go_wp2_with fail
    go_ret
    exact ⟨by rw [HAL.out]; first | rfl | simp, (Below.refl _ _).drew⟩
  clear e7 f7
  have e8 := (HB0.out.cell (p := ⟨b, o + 8, none⟩) HLT.out.1).trans E8.out
  have e9 := (HB0.out.cell (p := ⟨b, o + 9, none⟩) HLT.out.1).trans E9.out
  have e10 := (HB0.out.cell (p := ⟨b, o + 10, none⟩) HLT.out.1).trans E10.out
  have f8 := (HB0.out.cell (p := ⟨b', o' + 8, none⟩) HLT.out.2).trans F8.out
  have f9 := (HB0.out.cell (p := ⟨b', o' + 9, none⟩) HLT.out.2).trans F9.out
  have f10 := (HB0.out.cell (p := ⟨b', o' + 10, none⟩) HLT.out.2).trans F10.out
  repeat
    first
    | (first | with_reducible refine sp0 (fun K hK => ?_) | with_reducible refine sp1 (fun K hK => ?_) | with_reducible refine sp2 (fun K hK => ?_) | with_reducible refine sp3 (fun K hK => ?_) | with_reducible refine sp4 (fun K hK => ?_)
       go_simp
       first
       | (with_reducible refine hK _ _ ?_; clear hK K)
       | (with_reducible apply Exists.intro
          refine ⟨fun x hx => ?_, hK _ _ ?_⟩
          first
            | (with_reducible exact rfl)
            | (have y0 := keepc hx e8; have y1 := keepc hx e9; have y2 := keepc hx e10; have y3 := keepc hx f8; have y4 := keepc hx f9; have y5 := keepc hx f10; go_simp; done)
            | (have y0 := keepc hx e8; have y1 := keepc hx e9; have y2 := keepc hx e10; have y3 := keepc hx f8; have y4 := keepc hx f9; have y5 := keepc hx f10; go_simp; with_reducible exact rfl)
          clear hK K))
    | (first | with_reducible refine sk0 ?_ (fun K hK => ?_) | with_reducible refine sk1 ?_ (fun K hK => ?_) | with_reducible refine sk2 ?_ (fun K hK => ?_) | with_reducible refine sk3 ?_ (fun K hK => ?_) | with_reducible refine sk4 ?_ (fun K hK => ?_)
       rfl
       go_simp
       with_reducible refine hK _ _ ?_
       clear hK K)
  first | with_reducible refine sc0 (fun K hK => ?_) | with_reducible refine sc1 (fun K hK => ?_) | with_reducible refine sc2 (fun K hK => ?_) | with_reducible refine sc3 (fun K hK => ?_) | with_reducible refine sc4 (fun K hK => ?_)
  go_simp
  refine (HSA.out _ HB0.out).mono ?_
  clear e8 e9 e10 f8 f9 f10
  rintro e w1 ⟨rfl, hb9⟩
  refine ⟨hb9, hK _ _ ?_⟩
  clear hK K
  have HB1 := Lib.hid (HB0.out.trans (hb9.mono (HLE.out _ HB0.out)))
  clear hb9
  have e11 := (HB1.out.cell (p := ⟨b, o + 11, none⟩) HLT.out.1).trans E11.out
  have e12 := (HB1.out.cell (p := ⟨b, o + 12, none⟩) HLT.out.1).trans E12.out
  have e13 := (HB1.out.cell (p := ⟨b, o + 13, none⟩) HLT.out.1).trans E13.out
  have f11 := (HB1.out.cell (p := ⟨b', o' + 11, none⟩) HLT.out.2).trans F11.out
  have f12 := (HB1.out.cell (p := ⟨b', o' + 12, none⟩) HLT.out.2).trans F12.out
  have f13 := (HB1.out.cell (p := ⟨b', o' + 13, none⟩) HLT.out.2).trans F13.out
  repeat
    first
    | (first | with_reducible refine sp0 (fun K hK => ?_) | with_reducible refine sp1 (fun K hK => ?_) | with_reducible refine sp2 (fun K hK => ?_) | with_reducible refine sp3 (fun K hK => ?_) | with_reducible refine sp4 (fun K hK => ?_)
       go_simp
       first
       | (with_reducible refine hK _ _ ?_; clear hK K)
       | (with_reducible apply Exists.intro
          refine ⟨fun x hx => ?_, hK _ _ ?_⟩
          first
            | (with_reducible exact rfl)
            | (have y0 := keepc hx e11; have y1 := keepc hx e12; have y2 := keepc hx e13; have y3 := keepc hx f11; have y4 := keepc hx f12; have y5 := keepc hx f13; go_simp; done)
            | (have y0 := keepc hx e11; have y1 := keepc hx e12; have y2 := keepc hx e13; have y3 := keepc hx f11; have y4 := keepc hx f12; have y5 := keepc hx f13; go_simp; with_reducible exact rfl)
          clear hK K))
    | (first | with_reducible refine sk0 ?_ (fun K hK => ?_) | with_reducible refine sk1 ?_ (fun K hK => ?_) | with_reducible refine sk2 ?_ (fun K hK => ?_) | with_reducible refine sk3 ?_ (fun K hK => ?_) | with_reducible refine sk4 ?_ (fun K hK => ?_)
       rfl
       go_simp
       with_reducible refine hK _ _ ?_
       clear hK K)
  cases ta
  · skip
    repeat
      first
      | (first | with_reducible refine sp0 (fun K hK => ?_) | with_reducible refine sp1 (fun K hK => ?_) | with_reducible refine sp2 (fun K hK => ?_) | with_reducible refine sp3 (fun K hK => ?_) | with_reducible refine sp4 (fun K hK => ?_)
         go_simp
         first
         | (with_reducible refine hK _ _ ?_; clear hK K)
         | (with_reducible apply Exists.intro
            refine ⟨fun x hx => ?_, hK _ _ ?_⟩
            first
              | (with_reducible exact rfl)
            clear hK K))
      | (first | with_reducible refine sk0 ?_ (fun K hK => ?_) | with_reducible refine sk1 ?_ (fun K hK => ?_) | with_reducible refine sk2 ?_ (fun K hK => ?_) | with_reducible refine sk3 ?_ (fun K hK => ?_) | with_reducible refine sk4 ?_ (fun K hK => ?_)
         rfl
         go_simp
         with_reducible refine hK _ _ ?_
         clear hK K)
    with_reducible refine seq_nil ?_
    go_wp2_with fail
    go_ret
    exact ⟨by rw [HAL.out]; first | rfl | simp, HB1.out⟩
  repeat
    first
    | (first | with_reducible refine sp0 (fun K hK => ?_) | with_reducible refine sp1 (fun K hK => ?_) | with_reducible refine sp2 (fun K hK => ?_) | with_reducible refine sp3 (fun K hK => ?_) | with_reducible refine sp4 (fun K hK => ?_)
       go_simp
       first
       | (with_reducible refine hK _ _ ?_; clear hK K)
       | (with_reducible apply Exists.intro
          refine ⟨fun x hx => ?_, hK _ _ ?_⟩
          first
            | (with_reducible exact rfl)
            | (have y0 := keepc hx e11; have y1 := keepc hx e12; have y2 := keepc hx e13; have y3 := keepc hx f11; have y4 := keepc hx f12; have y5 := keepc hx f13; go_simp; done)
            | (have y0 := keepc hx e11; have y1 := keepc hx e12; have y2 := keepc hx e13; have y3 := keepc hx f11; have y4 := keepc hx f12; have y5 := keepc hx f13; go_simp; with_reducible exact rfl)
          clear hK K))
    | (first | with_reducible refine sk0 ?_ (fun K hK => ?_) | with_reducible refine sk1 ?_ (fun K hK => ?_) | with_reducible refine sk2 ?_ (fun K hK => ?_) | with_reducible refine sk3 ?_ (fun K hK => ?_) | with_reducible refine sk4 ?_ (fun K hK => ?_)
       rfl
       go_simp
       with_reducible refine hK _ _ ?_
       clear hK K)
  first | with_reducible refine sc0 (fun K hK => ?_) | with_reducible refine sc1 (fun K hK => ?_) | with_reducible refine sc2 (fun K hK => ?_) | with_reducible refine sc3 (fun K hK => ?_) | with_reducible refine sc4 (fun K hK => ?_)
  go_simp
  refine (HSB.out _ HB1.out).mono ?_
  clear e11 e12 e13 f11 f12 f13
  rintro e w2 ⟨rfl, hb9⟩
  refine ⟨hb9, hK _ _ ?_⟩
  clear hK K
  have HB2 := Lib.hid (HB1.out.trans (hb9.mono (HLE.out _ HB1.out)))
  clear hb9
  have e14 := (HB2.out.cell (p := ⟨b, o + 14, none⟩) HLT.out.1).trans E14.out
  have f14 := (HB2.out.cell (p := ⟨b', o' + 14, none⟩) HLT.out.2).trans F14.out
  repeat
    first
    | (first | with_reducible refine sp0 (fun K hK => ?_) | with_reducible refine sp1 (fun K hK => ?_) | with_reducible refine sp2 (fun K hK => ?_) | with_reducible refine sp3 (fun K hK => ?_) | with_reducible refine sp4 (fun K hK => ?_)
       go_simp
       first
       | (with_reducible refine hK _ _ ?_; clear hK K)
       | (with_reducible apply Exists.intro
          refine ⟨fun x hx => ?_, hK _ _ ?_⟩
          first
            | (with_reducible exact rfl)
            | (have y0 := keepc hx e14; have y1 := keepc hx f14; go_simp; done)
            | (have y0 := keepc hx e14; have y1 := keepc hx f14; go_simp; with_reducible exact rfl)
          clear hK K))
    | (first | with_reducible refine sk0 ?_ (fun K hK => ?_) | with_reducible refine sk1 ?_ (fun K hK => ?_) | with_reducible refine sk2 ?_ (fun K hK => ?_) | with_reducible refine sk3 ?_ (fun K hK => ?_) | with_reducible refine sk4 ?_ (fun K hK => ?_)
       rfl
       go_simp
       with_reducible refine hK _ _ ?_
       clear hK K)
  cases tb
  · skip
    repeat
      first
      | (first | with_reducible refine sp0 (fun K hK => ?_) | with_reducible refine sp1 (fun K hK => ?_) | with_reducible refine sp2 (fun K hK => ?_) | with_reducible refine sp3 (fun K hK => ?_) | with_reducible refine sp4 (fun K hK => ?_)
         go_simp
         first
         | (with_reducible refine hK _ _ ?_; clear hK K)
         | (with_reducible apply Exists.intro
            refine ⟨fun x hx => ?_, hK _ _ ?_⟩
            first
              | (with_reducible exact rfl)
            clear hK K))
      | (first | with_reducible refine sk0 ?_ (fun K hK => ?_) | with_reducible refine sk1 ?_ (fun K hK => ?_) | with_reducible refine sk2 ?_ (fun K hK => ?_) | with_reducible refine sk3 ?_ (fun K hK => ?_) | with_reducible refine sk4 ?_ (fun K hK => ?_)
         rfl
         go_simp
         with_reducible refine hK _ _ ?_
         clear hK K)
    with_reducible refine seq_nil ?_
    go_wp2_with fail
    go_ret
    exact ⟨by rw [HAL.out]; first | rfl | simp, HB2.out⟩
  repeat
    first
    | (first | with_reducible refine sp0 (fun K hK => ?_) | with_reducible refine sp1 (fun K hK => ?_) | with_reducible refine sp2 (fun K hK => ?_) | with_reducible refine sp3 (fun K hK => ?_) | with_reducible refine sp4 (fun K hK => ?_)
       go_simp
       first
       | (with_reducible refine hK _ _ ?_; clear hK K)
       | (with_reducible apply Exists.intro
          refine ⟨fun x hx => ?_, hK _ _ ?_⟩
          first
            | (with_reducible exact rfl)
            | (have y0 := keepc hx e14; have y1 := keepc hx f14; go_simp; done)
            | (have y0 := keepc hx e14; have y1 := keepc hx f14; go_simp; with_reducible exact rfl)
          clear hK K))
    | (first | with_reducible refine sk0 ?_ (fun K hK => ?_) | with_reducible refine sk1 ?_ (fun K hK => ?_) | with_reducible refine sk2 ?_ (fun K hK => ?_) | with_reducible refine sk3 ?_ (fun K hK => ?_) | with_reducible refine sk4 ?_ (fun K hK => ?_)
       rfl
       go_simp
       with_reducible refine hK _ _ ?_
       clear hK K)
  first | with_reducible refine sc0 (fun K hK => ?_) | with_reducible refine sc1 (fun K hK => ?_) | with_reducible refine sc2 (fun K hK => ?_) | with_reducible refine sc3 (fun K hK => ?_) | with_reducible refine sc4 (fun K hK => ?_)
  go_simp
  refine (HSP.out _ HB2.out).mono ?_
  clear e14 f14
  rintro e w3 ⟨rfl, hb9⟩
  refine ⟨hb9, hK _ _ ?_⟩
  clear hK K
  have HB3 := Lib.hid (HB2.out.trans (hb9.mono (HLE.out _ HB2.out)))
  clear hb9
  have e15 := (HB3.out.cell (p := ⟨b, o + 15, none⟩) HLT.out.1).trans E15.out
  have f15 := (HB3.out.cell (p := ⟨b', o' + 15, none⟩) HLT.out.2).trans F15.out
  repeat
    first
    | (first | with_reducible refine sp0 (fun K hK => ?_) | with_reducible refine sp1 (fun K hK => ?_) | with_reducible refine sp2 (fun K hK => ?_) | with_reducible refine sp3 (fun K hK => ?_) | with_reducible refine sp4 (fun K hK => ?_)
       go_simp
       first
       | (with_reducible refine hK _ _ ?_; clear hK K)
       | (with_reducible apply Exists.intro
          refine ⟨fun x hx => ?_, hK _ _ ?_⟩
          first
            | (with_reducible exact rfl)
            | (have y0 := keepc hx e15; have y1 := keepc hx f15; go_simp; done)
            | (have y0 := keepc hx e15; have y1 := keepc hx f15; go_simp; with_reducible exact rfl)
          clear hK K))
    | (first | with_reducible refine sk0 ?_ (fun K hK => ?_) | with_reducible refine sk1 ?_ (fun K hK => ?_) | with_reducible refine sk2 ?_ (fun K hK => ?_) | with_reducible refine sk3 ?_ (fun K hK => ?_) | with_reducible refine sk4 ?_ (fun K hK => ?_)
       rfl
       go_simp
       with_reducible refine hK _ _ ?_
       clear hK K)
  cases pe
  · skip
    repeat
      first
      | (first | with_reducible refine sp0 (fun K hK => ?_) | with_reducible refine sp1 (fun K hK => ?_) | with_reducible refine sp2 (fun K hK => ?_) | with_reducible refine sp3 (fun K hK => ?_) | with_reducible refine sp4 (fun K hK => ?_)
         go_simp
         first
         | (with_reducible refine hK _ _ ?_; clear hK K)
         | (with_reducible apply Exists.intro
            refine ⟨fun x hx => ?_, hK _ _ ?_⟩
            first
              | (with_reducible exact rfl)
            clear hK K))
      | (first | with_reducible refine sk0 ?_ (fun K hK => ?_) | with_reducible refine sk1 ?_ (fun K hK => ?_) | with_reducible refine sk2 ?_ (fun K hK => ?_) | with_reducible refine sk3 ?_ (fun K hK => ?_) | with_reducible refine sk4 ?_ (fun K hK => ?_)
         rfl
         go_simp
         with_reducible refine hK _ _ ?_
         clear hK K)
    with_reducible refine seq_nil ?_
    go_wp2_with fail
    go_ret
    exact ⟨by rw [HAL.out]; first | rfl | simp, HB3.out⟩
  repeat
    first
    | (first | with_reducible refine sp0 (fun K hK => ?_) | with_reducible refine sp1 (fun K hK => ?_) | with_reducible refine sp2 (fun K hK => ?_) | with_reducible refine sp3 (fun K hK => ?_) | with_reducible refine sp4 (fun K hK => ?_)
       go_simp
       first
       | (with_reducible refine hK _ _ ?_; clear hK K)
       | (with_reducible apply Exists.intro
          refine ⟨fun x hx => ?_, hK _ _ ?_⟩
          first
            | (with_reducible exact rfl)
            | (have y0 := keepc hx e15; have y1 := keepc hx f15; go_simp; done)
            | (have y0 := keepc hx e15; have y1 := keepc hx f15; go_simp; with_reducible exact rfl)
          clear hK K))
    | (first | with_reducible refine sk0 ?_ (fun K hK => ?_) | with_reducible refine sk1 ?_ (fun K hK => ?_) | with_reducible refine sk2 ?_ (fun K hK => ?_) | with_reducible refine sk3 ?_ (fun K hK => ?_) | with_reducible refine sk4 ?_ (fun K hK => ?_)
       rfl
       go_simp
       with_reducible refine hK _ _ ?_
       clear hK K)
  with_reducible refine seq_nil ?_
  go_wp2_with fail
  go_ret
  exact ⟨by rw [HAL.out]; first | rfl | simp, HB3.out⟩
end Go.Proofs.YtmmhpibkjdlkgaaGreat
namespace Go.Proofs.YtmmhpibkjdlkgaaGreat
open Go Go.RowKit Go.Shelf
open Ex (E)

namespace Ex2
mutual
theorem mem_pre : ∀ (p q : E) (d : Nat) (k : (E × E) × Nat × Nat), k ∈ pre p q d → ∃ k' ∈ Ex.pre p d, k'.1 = k.1.1
  | .mk k0 f t nm ar n s op A B ps l, q, d, k, h => by
    rw [pre] at h
    rcases List.mem_cons.1 h with rfl | h
    · exact ⟨_, by rw [Ex.pre]; exact List.mem_cons_self .., rfl⟩
    · obtain ⟨k', h1, h2⟩ := mem_pres l q.kids (d + 1) k h
      exact ⟨k', by rw [Ex.pre]; exact List.mem_cons_of_mem _ h1, h2⟩
theorem mem_pres : ∀ (r s : List E) (d : Nat) (k : (E × E) × Nat × Nat), k ∈ pres r s d → ∃ k' ∈ Ex.pres r d, k'.1 = k.1.1
  | x :: r, y :: s, d, k, h => by
    rw [pres] at h
    rcases List.mem_append.1 h with h | h
    · obtain ⟨k', h1, h2⟩ := mem_pre x y d k h
      exact ⟨k', by rw [Ex.pres]; exact List.mem_append_left _ h1, h2⟩
    · obtain ⟨k', h1, h2⟩ := mem_pres r s d k h
      exact ⟨k', by rw [Ex.pres]; exact List.mem_append_right _ h1, h2⟩
  | [], _, _, k, h => by simp [pres] at h
  | _ :: _, [], _, k, h => by simp [pres] at h
end
end Ex2
/-- What 'alike' owes of two nodes that lie. -/
theorem alikeE_at (p q : E) (hf : Ex.FineAll p) (W : World) (x : V2 (E × E)) (h : El2At (LT W.heap.size) W x) (hm : x.key ∈ Ex2.pre p q 1) : Calls Tryz.prog 61 #[.pointer x.p, .pointer x.q] W fun e W' => e = .returned (.bool (Ex.alike x.t.1 x.t.2)) ∧ Below W.heap.size W W' := by
  obtain ⟨b, o, b', o', hp, hq, ⟨hG, hG'⟩, h1, h2⟩ := h
  obtain ⟨k', hk1, hk2⟩ := Ex2.mem_pre p q 1 _ hm
  have hfx := hf.2 _ hk1
  rw [show k'.1 = x.t.1 from hk2] at hfx
  rw [hp, hq]
  exact alikeE_any b o b' o' x.t.1 x.t.2 W ⟨hG, hG'⟩ h1 h2 ⟨hfx.a, hfx.b, fun r hr => (hfx.ps r hr).1⟩
set_option maxRecDepth 100000 in
set_option maxHeartbeats 2000000 in
theorem sameX_any (p q : E) (s t : Leads) (w : World) (hf : Ex.FineAll p) (hp : ExAt (LT w.heap.size) w p s) (hq : ExAt (LT w.heap.size) w q t) :
    Calls Tryz.prog 21 #[ev p s, ev q t] w fun e w' => e = .returned (.bool (Ex.same p q)) ∧ Below w.heap.size w w' := by
  obtain ⟨c, hc⟩ : ∃ c, (evCells p s).toArray = c := ⟨_, rfl⟩
  obtain ⟨d, hd⟩ : ∃ d, (evCells q t).toArray = d := ⟨_, rfl⟩
  have hbc : ∀ w, (Instr.box 30 (.agg c)).run Tryz.prog w = .ok (.pointer (some ⟨w.heap.size, 0, none⟩)) (w.alloc (.cells c 30)) := by intro w; rw [← hc]; rfl
  have hbd : ∀ w, (Instr.box 30 (.agg d)).run Tryz.prog w = .ok (.pointer (some ⟨w.heap.size, 0, none⟩)) (w.alloc (.cells d 30)) := by intro w; rw [← hd]; rfl
  unfold ev
  rw [hc, hd]
  obtain ⟨W2, hW2⟩ : ∃ W2, [Obj.cells c 30, .cells d 30].foldl World.alloc w = W2 := ⟨_, rfl⟩
  have hs2 : W2.heap.size = w.heap.size + 2 := by rw [← hW2]; exact allocs_size _ _
  have hb2 : Below w.heap.size w W2 := by rw [← hW2]; exact allocs_below _ _ (Nat.le_refl _)
  have hx0 : W2.heap[w.heap.size]? = some (.cells c 30) := by rw [← hW2]; exact allocs_get _ w 0 _ rfl
  have hx1 : W2.heap[w.heap.size + 1]? = some (.cells d 30) := by rw [← hW2]; exact allocs_get _ w 1 _ rfl
  rw [← hc] at hx0
  rw [← hd] at hx1
  have hn1 : ENode (LT W2.heap.size) W2 p w.heap.size 0 := hp.boxed hb2 hx0 _ hb2.size (by omega)
  have hn2 : ENode (LT W2.heap.size) W2 q (w.heap.size + 1) 0 := hq.boxed hb2 hx1 _ hb2.size (by omega)
  have hcall := sameE_any W2.heap.size w.heap.size 0 (w.heap.size + 1) 0 p q W2 (Nat.le_refl _) ⟨w.heap.size, 0, w.heap.size + 1, 0, rfl, rfl, ⟨by show _ < _; omega, by show _ < _; omega⟩, hn1, hn2⟩ (by have := hf.1; omega) (fun W x h hm => alikeE_at p q hf W x h hm)
  have HCL := Lib.hid hcall; have HB2 := Lib.hid hb2
  have hW2' : (w.alloc (.cells c 30)).alloc (.cells d 30) = W2 := hW2
  have HW2 := Lib.hid hW2'
  clear hcall hb2 hx0 hx1 hn1 hn2 hs2 hW2 hW2' hc hd hp hq hf
  go_enter Tryz.func21, Tryz.ntmps21
  go_upto_region 1 with fail
  rw [HW2.out]
  go_wp2_with (go_at_call 60; with_reducible refine HCL.out.mono ?_; rintro e w1 ⟨rfl, hb1⟩; have HB1 := Lib.hid hb1; clear hb1)
  go_ret
  exact ⟨rfl, HB2.out.trans (HB1.out.mono HB2.out.size)⟩
end Go.Proofs.YtmmhpibkjdlkgaaGreat

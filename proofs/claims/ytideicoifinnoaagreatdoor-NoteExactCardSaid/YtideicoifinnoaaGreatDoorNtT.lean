/- note.Text. -/
import Derived.Test.YtideicoifinnoaaGreatDoorNtF
import Derived.Test.YtideicoifinnoaaGreatDoorTqB
import Derived.Deep.LoopGhost
namespace Go.Proofs.YtideicoifinnoaaGreatDoor
open Go Go.RowKit
open Tp (T)
open Nt (Pc)

theorem elem_pc : Tryz.prog.underlying 48 = some (.slice (Tryz.prog.elem 48)) := by kernel_rfl
theorem size_pcs (w : World) : (sizeOf (Tryz.prog.elem 48)).run Tryz.prog w = .ok 4 w := by kernel_rfl
/-- 'open[:top]'. -/
theorem pc_pop (g n cap k : Nat) (hk : k ≤ n) (hn : n ≤ cap) (w' : World) :
    (Instr.slice 48 (.slice (some ⟨g, 0, none⟩) n cap) none (some (.int .i64 (k : Int))) none).run Tryz.prog w' = .ok (.slice (some ⟨g, 0, none⟩) k cap) w' := by
  rw [run_slice_h w' _ _ n cap elem_pc .i64 (k : Int) (by omega) (by omega), size_pcs]
  simp [Result.andThen, sliced, add_flat]
/-- What the loop keeps. -/
structure TxRel (t : T) (w : World) (bb : Nat) (S : List Pc) (out : List UInt8) (v : Value) (wr : World) : Prop where
  row : PcRow w.heap.size wr v S.reverse
  bld : Lib.IsBuilder 45 5 w.heap.size bb (Lib.byteCells out) wr
  say : out ++ Nt.rens S = Nt.text t
  ok : ∀ p ∈ S, PcOk w.heap.size w p
  low : Below w.heap.size w wr
  small : Nt.wts S ≤ 80000
theorem len_out {t : T} {out : List UInt8} {S : List Pc} (h : out ++ Nt.rens S = Nt.text t) : out.length + (Nt.rens S).length = (Nt.text t).length := by rw [← h, List.length_append]

set_option maxRecDepth 100000 in
set_option maxHeartbeats 4000000 in
theorem text_yes (t : T) (a : Option Addr) (cap : Nat) (w : World) (hs : Tp.size t ≤ 10000) (hty : TyAt (LT w.heap.size) w t a cap) (hg : Good w) (hr : Tp.right t = true) :
    Calls Tryz.prog 6 #[tv t a cap] w fun e w' => e = .returned (.tuple #[.string ⟨(Nt.text t).toArray⟩, .int .i64 0]) ∧ Below w.heap.size w w' := by
  obtain ⟨k0, hk0⟩ : ∃ k0, t.kind = k0 := ⟨_, rfl⟩
  obtain ⟨n0, hn0⟩ : ∃ n0, t.num = n0 := ⟨_, rfl⟩
  obtain ⟨m0, hm0⟩ : ∃ m0, t.kids.length = m0 := ⟨_, rfl⟩
  obtain ⟨hcell, htw, hle, hbw⟩ := box_facts hty (k := k0) (n := n0) (m := m0)
  have hca := fun w1 (hb : Below (w.heap.size + 1) (w.alloc (.cells #[.int .i64 k0, .int .i64 n0, .slice a m0 cap] 24)) w1) => check_any t a cap w1 hs (htw w1 hb)
  rw [hr, show errOf true = 0 from rfl] at hca
  have hlen := Nt.text_len t (right_fits t hr)
  unfold tv at hca ⊢
  rw [hk0, hn0, hm0] at hca ⊢
  have HCELL := Lib.hid hcell; have HLE := Lib.hid hle; have HBW := Lib.hid hbw; have HCA := Lib.hid hca; have HTY := Lib.hid hty; have HG := Lib.hid hg; have HR := Lib.hid hr; have HLEN := Lib.hid (show (Nt.text t).length ≤ 500000 from by omega)
  have HK0 := Lib.hid hk0; have HN0 := Lib.hid hn0; have HM0 := Lib.hid hm0; have HS := Lib.hid hs
  have HB0 := Lib.hid (Below.refl (w.heap.size + 1) (w.alloc (.cells #[.int .i64 k0, .int .i64 n0, .slice a m0 cap] 24)))
  clear hk0 hn0 hm0 hcell htw hle hbw hca hty hg hr hlen hs
  go_enter Tryz.func6, Tryz.ntmps6
  go_wp2_with fail
  refine (HCA.out _ HB0.out).mono ?_
  rintro e w1 ⟨rfl, hb1⟩
  have HB1 := Lib.hid (HB0.out.trans (hb1.mono (by simp)))
  clear hb1
  obtain ⟨c0, c1, c2⟩ := HCELL.out w1 HB1.out
  have hlt1 : w.heap.size < w1.heap.size := HLE.out _ HB1.out
  go_wp2_with fail
  clear c0 c1 c2
  have hstart : TxRel t w w1.heap.size [⟨t, a, cap, []⟩] [] (.slice (some ⟨w1.heap.size + 1, 0, none⟩) 1 1) ((w1.alloc (.cells #[.pointer none, .slice none 0 0] 45)).alloc (.cells #[.int .i64 k0, .int .i64 n0, .slice a m0 cap, .string ⟨#[]⟩] 47)) := by
    have hl := World.ownsRow_lit (base := w.heap.size) (e := 47) (size := 4) (w1.alloc (.cells #[.pointer none, .slice none 0 0] 45)) #[.int .i64 k0, .int .i64 n0, .slice a m0 cap, .string ⟨#[]⟩] 1 (by simp; omega) (by unfold maxLen; omega) rfl
    rw [World.size_alloc] at hl
    refine ⟨?_, ?_, ?_, ?_, ?_, ?_⟩
    · unfold PcRow
      simp only [List.reverse_cons, List.reverse_nil, List.nil_append, pcCells_cons, pcCells_nil, pcRow, HK0.out, HN0.out, HM0.out, List.length_cons, List.length_nil, List.append_nil]
      exact hl
    · refine .inl ⟨by omega, .slice none 0 0, ?_, World.ownsRow_nil _ _ _ _, by simp [Value.ownBlock]⟩
      rw [Below.heap_alloc _ _ _ (by simp)]
      exact World.alloc_heap_new w1 _
    · simp [Nt.rens_cons, Nt.rens_nil, Nt.ren_ty]
    · intro p hp
      simp only [List.mem_singleton] at hp
      subst hp
      exact .inr ⟨rfl, HR.out, HTY.out⟩
    · exact ((HBW.out _ HB1.out).alloc (by omega) _).alloc (by simp; omega) _
    · have h1 := Tp.size_pos t
      have h2 := HS.out
      rw [Nt.wts_cons, Nt.wts_nil]
      unfold Nt.wt
      split <;> simp <;> omega
  have HST := Lib.hid hstart
  clear hstart hlt1
  go_loopg [5] (Nt.wts [⟨t, a, cap, []⟩]) (fun gk v5 wr => ∃ (S : List Pc) (out : List UInt8), TxRel t w w1.heap.size S out v5 wr ∧ gk = Nt.wts S)
  case atStart => exact ⟨_, _, HST.out, rfl⟩
  case round =>
    obtain ⟨S, out, hrel, rfl⟩ := hrel
    have HREL := Lib.hid hrel
    clear hrel
    cases S with
    | nil =>
      obtain ⟨v5a, v5c, rfl⟩ := own_shapeT HREL.out.row
      go_wp2_with fail
      have hsay := HREL.out.say
      rw [Nt.rens_nil, List.append_nil] at hsay
      refine (Tryz.Builder_String_any w.heap.size w1.heap.size out wr HREL.out.bld HREL.out.low.size).mono ?_
      rintro e w2 ⟨rfl, hb2⟩
      rw [hsay]
      go_wp2_with fail
      go_ret2
      exact ⟨rfl, HREL.out.low.trans hb2⟩
    | cons p R =>
      obtain ⟨g, c5, rfl, hg1, hg2, hc1, hc2, e0, e1, e2, e3, hrest⟩ := pc_top HREL.out.row
      obtain ⟨r, hr⟩ : ∃ r, R.length = r := ⟨_, rfl⟩
      obtain ⟨m, hm⟩ : ∃ m, p.t.kids.length = m := ⟨_, rfl⟩
      obtain ⟨kp, hkp⟩ : ∃ x, p.t.kind = x := ⟨_, rfl⟩
      obtain ⟨np, hnp⟩ : ∃ x, p.t.num = x := ⟨_, rfl⟩
      rw [hr] at e0 e1 e2 e3 hc1 hrest ⊢
      rw [hkp] at e0
      rw [hnp] at e1
      rw [hm] at e2
      have hpop := pc_pop g (r + 1) c5 r (by omega) hc1
      have hrl : (r : Int) + 1 ≤ 9223372036854775807 := by unfold maxLen at hc2; omega
      have HREST := Lib.hid hrest; have HRL := Lib.hid hr; have HMP := Lib.hid hm; have HKP := Lib.hid hkp; have HNP := Lib.hid hnp
      clear hrest hr hm hkp hnp
      by_cases h0 : m = 0
      · subst h0
        have hk0 : p.t.kids = [] := List.length_eq_zero_iff.1 HMP.out
        have hwp : Nt.wt p = 1 := by unfold Nt.wt; rw [hk0]; rfl
        have hrp : Nt.ren p = p.s ++ Nt.leafTx kp np := by unfold Nt.ren; rw [text_kids hk0, HKP.out, HNP.out]
        have hinp : Wd.inI64 np := by
          rcases HREL.out.ok p (List.mem_cons_self ..) with ⟨s, hps⟩ | ⟨_, h1, _⟩
          · rw [← HNP.out, hps]; show Wd.inI64 0; unfold Wd.inI64; omega
          · have := (right_cases _ h1).1; rw [← HNP.out]; unfold Wd.inI64; omega
        have hsay := HREL.out.say
        rw [Nt.rens_cons, hrp] at hsay
        have hlo := congrArg List.length hsay
        simp only [List.length_append] at hlo
        have hbx : Below wr.heap.size wr (wr.alloc (.cells #[.int .i64 kp, .int .i64 np, .slice p.a 0 p.cap, .string ⟨p.s.toArray⟩] 47)) := (Below.refl _ _).alloc (Nat.le_refl _) _
        have hbb : w1.heap.size < wr.heap.size := by rcases HREL.out.bld with h | h <;> exact h.lt
        have hw1 := write_any w.heap.size w1.heap.size (Lib.byteCells out) p.s _ (bld_below HREL.out.bld hbx) (by rw [Lib.byteCells_length]; have := HLEN.out; omega) (by have := HREL.out.low.size; simp; omega)
        have HW1 := Lib.hid hw1; have HBX := Lib.hid hbx; have HBBS := Lib.hid hbb; have HINP := Lib.hid hinp; have HSAY := Lib.hid hsay; have HLO := Lib.hid hlo; have HWP := Lib.hid hwp
        clear hk0 hrp hinp hsay hlo hbx hbb hw1 hwp
        go_wp2_with fail
        refine HW1.out.mono ?_
        rintro e w2 ⟨⟨v2, rfl⟩, hb2, hlow2, hk2⟩
        have hbox : w2.heap[wr.heap.size]? = some (.cells #[.int .i64 kp, .int .i64 np, .slice p.a 0 p.cap, .string ⟨p.s.toArray⟩] 47) := by
          rw [hk2 wr.heap.size (by simp) (by have := HBBS.out; omega) (fun cur fz e => by rw [World.alloc_heap_new] at e; injection e with e; injection e with _ e; revert e; decide)]
          exact World.alloc_heap_new wr _
        have f0 : w2.cell? ⟨wr.heap.size, 0, none⟩ = some (.int .i64 kp) := cell_box hbox rfl rfl
        have f1 : w2.cell? ⟨wr.heap.size, 1, none⟩ = some (.int .i64 np) := cell_box hbox rfl rfl
        have f2 : w2.cell? ⟨wr.heap.size, 2, none⟩ = some (.slice p.a 0 p.cap) := cell_box hbox rfl rfl
        have hlowa : Below w.heap.size w w2 := (HREL.out.low.trans (HBX.out.mono HREL.out.low.size)).trans hlow2
        have hlf := leaf_any p.t p.a p.cap w2 (HG.out.below hlowa) (by rw [HNP.out]; exact HINP.out)
        unfold tv at hlf
        rw [HKP.out, HNP.out, HMP.out] at hlf
        have HLF := Lib.hid hlf; have HB2 := Lib.hid hb2; have HLOW := Lib.hid hlowa; have HK2 := Lib.hid hk2
        clear hbox hlowa hlf hb2 hlow2 hk2 e0 e1 e2 e3 hpop
        go_wp2_with fail
        refine HLF.out.mono ?_
        rintro e w3 ⟨rfl, hb3⟩
        clear f0 f1 f2
        have hw3 := write_any w.heap.size w1.heap.size (Lib.byteCells out ++ Lib.byteCells p.s) (Nt.leafTx kp np) w3 (bld_below HB2.out hb3) (by rw [List.length_append, Lib.byteCells_length, Lib.byteCells_length]; have := HLEN.out; have := HLO.out; omega) (by have := HLOW.out.size; have := hb3.size; omega)
        have HW3 := Lib.hid hw3; have HB3 := Lib.hid hb3
        clear hw3 hb3
        go_wp2_with fail
        refine HW3.out.mono ?_
        rintro e w4 ⟨⟨v4, rfl⟩, hb4, hlow4, hk4⟩
        have hrow4 : PcRow w.heap.size w4 (.slice (some ⟨g, 0, none⟩) r c5) R.reverse := ((((HREST.out.later HBX.out).keeps (bld_below HREL.out.bld HBX.out) HK2.out).later HB3.out).keeps (bld_below HB2.out HB3.out) hk4)
        have hbc : Lib.byteCells out ++ Lib.byteCells p.s ++ Lib.byteCells (Nt.leafTx kp np) = Lib.byteCells (out ++ p.s ++ Nt.leafTx kp np) := by simp [Lib.byteCells]
        rw [hbc] at hb4
        have hnew : TxRel t w w1.heap.size R (out ++ p.s ++ Nt.leafTx kp np) (.slice (some ⟨g, 0, none⟩) r c5) w4 := ⟨hrow4, hb4, by rw [← HSAY.out]; simp [List.append_assoc], fun q hq => HREL.out.ok q (List.mem_cons_of_mem _ hq), (HLOW.out.trans (HB3.out.mono HLOW.out.size)).trans hlow4, by have := HREL.out.small; rw [Nt.wts_cons] at this; omega⟩
        have HNEW := Lib.hid hnew
        clear hrow4 hbc hnew hb4 hlow4 hk4
        go_wp2_with fail
        go_roundg (Nt.wts R)
        case measure => rw [Nt.wts_cons, HWP.out]; omega
        case rel => exact ⟨R, _, HNEW.out, rfl⟩
      · have hm0 : ((m : Int) == 0) = false := by simpa using h0
        have hk0 : p.t.kids ≠ [] := fun e => h0 (by rw [← HMP.out, e]; rfl)
        obtain ⟨hps, hpr, hpt⟩ : p.s = [] ∧ Tp.right p.t = true ∧ TyAt (LT w.heap.size) w p.t p.a p.cap := by
          rcases HREL.out.ok p (List.mem_cons_self ..) with ⟨s, h⟩ | h
          · exact absurd (by rw [h]; rfl) hk0
          · exact h
        have hwp : Nt.wt p = 8 * Tp.size p.t := by
          unfold Nt.wt
          rw [if_neg (fun h => hk0 (List.isEmpty_iff.1 h))]
        have hrp : Nt.ren p = Nt.text p.t := by unfold Nt.ren; rw [hps]; rfl
        have hsay := HREL.out.say
        rw [Nt.rens_cons, hrp] at hsay
        have hbx : Below wr.heap.size wr (wr.alloc (.cells #[.int .i64 kp, .int .i64 np, .slice p.a m p.cap, .string ⟨p.s.toArray⟩] 47)) := (Below.refl _ _).alloc (Nat.le_refl _) _
        have hlx := HREL.out.low.trans (hbx.mono HREL.out.low.size)
        have hpc := pieces_any p.t p.a p.cap w.heap.size w _ hpr hk0 hpt hlx (Nat.le_trans HREL.out.low.size hbx.size)
        unfold tv at hpc
        rw [HKP.out, HNP.out, HMP.out] at hpc
        have HPC := Lib.hid hpc; have HBX := Lib.hid hbx; have HLX := Lib.hid hlx; have HSAY := Lib.hid hsay; have HWP := Lib.hid hwp
        clear hk0 hps hpr hpt hwp hrp hsay hbx hlx hpc
        obtain ⟨i0, hi, hz0, hz1, hz2⟩ := info_parts info_pc
        go_wp2_with fail
        refine HPC.out.mono ?_
        rintro e w2 ⟨v2, l, rfl, hrow, hl1, hl7, hren, hwt, hok, hb2⟩
        obtain ⟨g2, cap2, rfl, hg3, hg4, -⟩ := hrow.shape hl1
        have hro := own_base' hrow (show w.heap.size ≤ _ from Nat.le_trans HREL.out.low.size HBX.out.size)
        have hrv := reverse_any hro (by omega)
        have HRV := Lib.hid hrv; have HREN := Lib.hid hren; have HWT := Lib.hid hwt; have HOK := Lib.hid hok; have HB2 := Lib.hid hb2; have HRO := Lib.hid (show PcRow w.heap.size w2 (.slice (some ⟨g2, 0, none⟩) l.length cap2) l from hro)
        have hgg : g < g2 := by have := hg4; rw [World.size_alloc] at this; omega
        have HGG := Lib.hid hgg
        clear hrv hren hwt hok hb2 hro hrow hgg hg4 e0 e1 e2 e3 hpop
        go_wp2_with fail
        refine HRV.out.mono ?_
        rintro e w3 ⟨rfl, hrow3, hgr3⟩
        have hrow3' : PcRow w.heap.size w3 (.slice (some ⟨g2, 0, none⟩) l.reverse.length cap2) l.reverse := by rw [List.length_reverse]; exact hrow3
        obtain ⟨g3, cap3, he3, -, -, hc3⟩ := hrow3'.shape (by rw [List.length_reverse]; exact hl1)
        injection he3 with he3 he3b he3c
        injection he3 with he3
        injection he3 with he3
        subst he3 he3c
        have hopen : PcRow w.heap.size w3 (.slice (some ⟨g, 0, none⟩) r c5) R.reverse :=
          World.ownsRow.kept ((HREST.out.later HBX.out).later HB2.out) hgr3 (.inr (by simp [Value.ownBlock]; have := HGG.out; omega))
        have hopen' : w3.ownsRow w.heap.size 47 4 (.slice (some ⟨g, 0, none⟩) r c5) r (pcCells R.reverse) := own_len hopen (by rw [List.length_reverse]; exact HRL.out)
        have HOP := Lib.hid hopen'; have HG3 := Lib.hid hgr3; have HC3 := Lib.hid hc3
        have hsz3 : w.heap.size ≤ w3.heap.size := Nat.le_trans (Nat.le_trans HLX.out.size HB2.out.size) hgr3.size
        clear hopen hopen' hgr3 hrow3 hrow3' hc3
        go_wp2_with (at_builtin; refine wpList_append_lies _ rfl (.tmp 45) (.tmp 46) 48 rfl w.heap.size 47 i0 (.agg #[.int .i64 0, .int .i64 0, .slice none 0 0, .string ByteArray.empty]) 4 56 Tryz.underlying48 hi hz0 hz1 hz2 rfl (by decide) (.slice (some ⟨g, 0, none⟩) r c5) r (pcCells R.reverse) rfl HOP.out ⟨g2, 0, none⟩ l.length cap2 (pcCells l.reverse) rfl (by rw [pcCells_len, List.length_reverse]) HC3.out (pcCells_one _) hl1 ?len ?bytes hsz3 w3.heap.size rfl ?_)
        case len => have h1 := HREL.out.small; have h2 := Nt.len_wts R; rw [Nt.wts_cons] at h1; rw [HRL.out] at h2; unfold maxLen; omega
        case bytes => have h1 := HREL.out.small; have h2 := Nt.len_wts R; rw [Nt.wts_cons] at h1; rw [HRL.out] at h2; omega
        intro g4 c8 w4 hown4 hgr4 _ _
        have hrow4 : PcRow w.heap.size w4 (.slice (some ⟨g4, 0, none⟩) (r + l.length) c8) (l ++ R).reverse := by
          unfold PcRow
          rw [List.reverse_append, pcCells_append, List.length_append, List.length_reverse, List.length_reverse, HRL.out]
          exact hown4
        have hb2' := bld_below (bld_below HREL.out.bld HBX.out) HB2.out
        have hb3' := bld_grown hb2' HG3.out HRO.out
        have hb4' := bld_grown hb3' hgr4 HOP.out
        have hlow2 := HLX.out.trans (HB2.out.mono HLX.out.size)
        have hlow4 : Below w.heap.size w w4 := (hlow2.grown HG3.out hlow2.size (fun k hk => (HRO.out.lt k hk).1)).grown hgr4 hsz3 (fun k hk => (HOP.out.lt k hk).1)
        have hnew : TxRel t w w1.heap.size (l ++ R) out (.slice (some ⟨g4, 0, none⟩) (r + l.length) c8) w4 := ⟨hrow4, hb4', by rw [← HSAY.out, Nt.rens_append, HREN.out], fun q hq => (List.mem_append.1 hq).elim (HOK.out q) (fun h => HREL.out.ok q (List.mem_cons_of_mem _ h)), hlow4, by have h1 := HREL.out.small; have h2 := HWT.out; rw [Nt.wts_cons, HWP.out] at h1; rw [Nt.wts_append]; omega⟩
        have HNEW := Lib.hid hnew
        clear hrow4 hb2' hb3' hb4' hlow2 hlow4 hnew hown4 hgr4
        go_wp2_with fail
        go_roundg (Nt.wts (l ++ R))
        case measure => rw [Nt.wts_cons, Nt.wts_append, HWP.out]; have := HWT.out; omega
        case rel => exact ⟨_, _, HNEW.out, rfl⟩
set_option maxHeartbeats 1000000 in
theorem text_no (t : T) (a : Option Addr) (cap : Nat) (w : World) (hs : Tp.size t ≤ 10000) (hty : TyAt (LT w.heap.size) w t a cap) (hr : Tp.right t = false) :
    Calls Tryz.prog 6 #[tv t a cap] w fun e w' => e = .returned (.tuple #[.string ⟨#[]⟩, .int .i64 1]) ∧ Below w.heap.size w w' := by
  obtain ⟨k0, hk0⟩ : ∃ k0, t.kind = k0 := ⟨_, rfl⟩
  obtain ⟨n0, hn0⟩ : ∃ n0, t.num = n0 := ⟨_, rfl⟩
  obtain ⟨m0, hm0⟩ : ∃ m0, t.kids.length = m0 := ⟨_, rfl⟩
  obtain ⟨hcell, htw, hle, hbw⟩ := box_facts hty (k := k0) (n := n0) (m := m0)
  have hca := fun w1 (hb : Below (w.heap.size + 1) (w.alloc (.cells #[.int .i64 k0, .int .i64 n0, .slice a m0 cap] 24)) w1) => check_any t a cap w1 hs (htw w1 hb)
  rw [hr, show errOf false = 1 from rfl] at hca
  unfold tv at hca ⊢
  rw [hk0, hn0, hm0] at hca ⊢
  have HCELL := Lib.hid hcell; have HBW := Lib.hid hbw; have HCA := Lib.hid hca
  have HB0 := Lib.hid (Below.refl (w.heap.size + 1) (w.alloc (.cells #[.int .i64 k0, .int .i64 n0, .slice a m0 cap] 24)))
  clear hk0 hn0 hm0 hcell htw hle hbw hca hty hr hs
  go_enter Tryz.func6, Tryz.ntmps6
  go_wp2_with fail
  refine (HCA.out _ HB0.out).mono ?_
  rintro e w1 ⟨rfl, hb1⟩
  have HB1 := Lib.hid (HB0.out.trans (hb1.mono (by simp)))
  clear hb1
  go_wp2_with fail
  go_ret2
  exact ⟨rfl, HBW.out _ HB1.out⟩
/-- WHAT note.Text HANDS BACK. -/
def textOf (t : T) : List UInt8 := if Tp.right t = true then Nt.text t else []
theorem text_any (t : T) (a : Option Addr) (cap : Nat) (w : World) (hs : Tp.size t ≤ 10000) (hty : TyAt (LT w.heap.size) w t a cap) (hg : Good w) :
    Calls Tryz.prog 6 #[tv t a cap] w fun e w' => e = .returned (.tuple #[.string ⟨(textOf t).toArray⟩, .int .i64 (errOf (Tp.right t))]) ∧ Below w.heap.size w w' := by
  unfold textOf
  cases hr : Tp.right t with
  | true => exact text_yes t a cap w hs hty hg hr
  | false => exact text_no t a cap w hs hty hr
end Go.Proofs.YtideicoifinnoaaGreatDoor

/- The law's count of an expression, and of a row of them, walked. -/
import Derived.Test.YtmmhpibkjdlkgaaGreatCnP
import Derived.Deep.CutBlock
import Derived.Deep.DeepCutAuto
namespace Go.Proofs.YtmmhpibkjdlkgaaGreat
open Go Go.RowKit
open Ex (E ec ecs tc pcs hv)

theorem Ex.ec_eq (k f t : Int) (nm ar : List UInt8) (x : Int) (s : List UInt8) (op : Int) (A B : Tp.T) (ps : List Tr.P) (l : List E) (n : Nat) : ec (.mk k f t nm ar x s op A B ps l) n = if 300 < s.length ∨ 300 < nm.length ∨ 300 < ar.length then 401 else ecs l (pcs ps (tc B (tc A (n + 1)))) := by
  rw [ec]
theorem Ex.size_kid (l : List E) (k : Nat) (h : k < l.length) : Ex.size l[k] ≤ Ex.sizes l := by
  induction l generalizing k with
  | nil => simp at h
  | cons e r ih =>
    cases k with
    | zero => simp [Ex.sizes]
    | succ j => have := ih j (by simpa using h); simp only [Ex.sizes, List.getElem_cons_succ]; omega
set_option maxRecDepth 100000 in
set_option maxHeartbeats 16000000 in
theorem count_any : ∀ (sz : Nat) (e : E) (s : Leads) (n : Nat) (w : World), Ex.size e ≤ sz → n ≤ 2000 → ExAt (LT w.heap.size) w e s →
    Calls Tryz.prog 43 #[ev e s, .int .i64 (n : Int)] w fun r w' => r = .returned (.int .i64 (ec e n : Int)) ∧ Below w.heap.size w w' := by
  intro sz
  induction sz with
  | zero => intro e s n w h; have := Ex.size_pos e; omega
  | succ sz ih =>
    intro e ls n w hn hc hp
    obtain ⟨k, f, t, nm, ar, x, s, op, A, B, ps, l⟩ := e
    obtain ⟨aa, ac, ba, bc, pa, pc, ka, kc⟩ := ls
    have hszk := Ex.size_kids (.mk k f t nm ar x s op A B ps l)
    obtain ⟨pl, hpl⟩ : ∃ m, ps.length = m := ⟨_, rfl⟩
    obtain ⟨kl, hkl⟩ : ∃ m, l.length = m := ⟨_, rfl⟩
    have hpl2 : (pl : Int) ≤ 9223372036854775807 := by have h1 : ps.length ≤ pc := hp.lp.1; have h2 : pc ≤ maxLen := hp.lp.2; unfold maxLen at h2; omega
    have hkl2 : (kl : Int) ≤ 9223372036854775807 := by have h1 : l.length ≤ kc := hp.lk.1; have h2 : kc ≤ maxLen := hp.lk.2; unfold maxLen at h2; omega
    have hA := fun W (hb : Below w.heap.size w W) (m : Nat) (hm : m ≤ 5000) => countType_any _ A aa ac m W (Nat.le_refl _) hm (hp.ta.below hb (fun _ h => h) (fun _ h => Nat.lt_of_lt_of_le h hb.size))
    have hB := fun W (hb : Below w.heap.size w W) (m : Nat) (hm : m ≤ 5000) => countType_any _ B ba bc m W (Nat.le_refl _) hm (hp.tb.below hb (fun _ h => h) (fun _ h => Nat.lt_of_lt_of_le h hb.size))
    have hps : PKids (LT w.heap.size) w ps pa := hp.ps
    have hks : EKids (LT w.heap.size) w l ka := hp.ks
    unfold ev evCells
    simp only [Ex.E.kind, Ex.E.frm, Ex.E.til, Ex.E.nm, Ex.E.ar, Ex.E.num, Ex.E.s, Ex.E.op, Ex.E.a, Ex.E.b, Ex.E.pats, Ex.E.kids]
    rw [Ex.ec_eq, hpl, hkl]
    obtain ⟨m1, hm1⟩ : ∃ c, tc A (n + 1) = c := ⟨_, rfl⟩
    obtain ⟨m2, hm2⟩ : ∃ c, tc B m1 = c := ⟨_, rfl⟩
    obtain ⟨m3, hm3⟩ : ∃ c, pcs ps m2 = c := ⟨_, rfl⟩
    obtain ⟨m4, hm4⟩ : ∃ c, ecs l m3 = c := ⟨_, rfl⟩
    have b1 : m1 ≤ 2001 := by rw [← hm1]; have := Ex.tc_le A (n + 1); omega
    have b2 : m2 ≤ 2001 := by rw [← hm2]; have := Ex.tc_le B m1; omega
    have b3 : m3 ≤ 2001 := by rw [← hm3]; have := Ex.pcs_le ps m2; omega
    rw [hm1, hm2, hm3, hm4]
    have hA1 := fun W hb => hA W hb (n + 1) (by omega)
    have hB1 := fun W hb => hB W hb m1 (by omega)
    rw [hm1] at hA1; rw [hm2] at hB1
    rw [show ((n + 1 : Nat) : Int) = (n : Int) + 1 from by omega] at hA1
    unfold tv at hA1 hB1
    obtain ⟨a0, ha0⟩ : ∃ k, A.kind = k := ⟨_, rfl⟩
    obtain ⟨a1, ha1⟩ : ∃ k, A.num = k := ⟨_, rfl⟩
    obtain ⟨a2, ha2⟩ : ∃ k, A.kids.length = k := ⟨_, rfl⟩
    obtain ⟨b0, hb0⟩ : ∃ k, B.kind = k := ⟨_, rfl⟩
    obtain ⟨b1', hb1'⟩ : ∃ k, B.num = k := ⟨_, rfl⟩
    obtain ⟨b2', hb2'⟩ : ∃ k, B.kids.length = k := ⟨_, rfl⟩
    simp only [ha0, ha1, ha2] at hA1 ⊢; simp only [hb0, hb1', hb2'] at hB1 ⊢
    obtain ⟨w1, hw1⟩ : ∃ w1, w.alloc (.cells #[.int .i64 k, .int .i64 f, .int .i64 t, .string ⟨nm.toArray⟩, .string ⟨ar.toArray⟩, .int .i64 x, .string ⟨s.toArray⟩, .int .i64 op, .int .i64 a0, .int .i64 a1, .slice aa a2 ac, .int .i64 b0, .int .i64 b1', .slice ba b2' bc, .slice pa pl pc, .slice ka kl kc] 30) = w1 := ⟨_, rfl⟩
    have hnew := World.alloc_heap_new w (.cells #[.int .i64 k, .int .i64 f, .int .i64 t, .string ⟨nm.toArray⟩, .string ⟨ar.toArray⟩, .int .i64 x, .string ⟨s.toArray⟩, .int .i64 op, .int .i64 a0, .int .i64 a1, .slice aa a2 ac, .int .i64 b0, .int .i64 b1', .slice ba b2' bc, .slice pa pl pc, .slice ka kl kc] 30)
    have hbe : Below w.heap.size w (w.alloc (.cells #[.int .i64 k, .int .i64 f, .int .i64 t, .string ⟨nm.toArray⟩, .string ⟨ar.toArray⟩, .int .i64 x, .string ⟨s.toArray⟩, .int .i64 op, .int .i64 a0, .int .i64 a1, .slice aa a2 ac, .int .i64 b0, .int .i64 b1', .slice ba b2' bc, .slice pa pl pc, .slice ka kl kc] 30)) := (Below.refl _ _).alloc (Nat.le_refl _) _
    have hs1 := World.size_alloc w (.cells #[.int .i64 k, .int .i64 f, .int .i64 t, .string ⟨nm.toArray⟩, .string ⟨ar.toArray⟩, .int .i64 x, .string ⟨s.toArray⟩, .int .i64 op, .int .i64 a0, .int .i64 a1, .slice aa a2 ac, .int .i64 b0, .int .i64 b1', .slice ba b2' bc, .slice pa pl pc, .slice ka kl kc] 30)
    rw [hw1] at hnew hbe hs1
    have hcell : ∀ W', Below (w.heap.size + 1) w1 W' → W'.cell? ⟨w.heap.size, 0, none⟩ = some (.int .i64 k) ∧ W'.cell? ⟨w.heap.size, 1, none⟩ = some (.int .i64 f) ∧ W'.cell? ⟨w.heap.size, 2, none⟩ = some (.int .i64 t) ∧ W'.cell? ⟨w.heap.size, 3, none⟩ = some (.string ⟨nm.toArray⟩) ∧ W'.cell? ⟨w.heap.size, 4, none⟩ = some (.string ⟨ar.toArray⟩) ∧ W'.cell? ⟨w.heap.size, 5, none⟩ = some (.int .i64 x) ∧ W'.cell? ⟨w.heap.size, 6, none⟩ = some (.string ⟨s.toArray⟩) ∧ W'.cell? ⟨w.heap.size, 7, none⟩ = some (.int .i64 op) ∧ W'.cell? ⟨w.heap.size, 8, none⟩ = some (.int .i64 a0) ∧ W'.cell? ⟨w.heap.size, 9, none⟩ = some (.int .i64 a1) ∧ W'.cell? ⟨w.heap.size, 10, none⟩ = some (.slice aa a2 ac) ∧ W'.cell? ⟨w.heap.size, 11, none⟩ = some (.int .i64 b0) ∧ W'.cell? ⟨w.heap.size, 12, none⟩ = some (.int .i64 b1') ∧ W'.cell? ⟨w.heap.size, 13, none⟩ = some (.slice ba b2' bc) ∧ W'.cell? ⟨w.heap.size, 14, none⟩ = some (.slice pa pl pc) ∧ W'.cell? ⟨w.heap.size, 15, none⟩ = some (.slice ka kl kc) := fun W' h => by
      have h0 := (h.block w.heap.size (by omega)).trans hnew
      exact ⟨cell_box h0 rfl rfl, cell_box h0 rfl rfl, cell_box h0 rfl rfl, cell_box h0 rfl rfl, cell_box h0 rfl rfl, cell_box h0 rfl rfl, cell_box h0 rfl rfl, cell_box h0 rfl rfl, cell_box h0 rfl rfl, cell_box h0 rfl rfl, cell_box h0 rfl rfl, cell_box h0 rfl rfl, cell_box h0 rfl rfl, cell_box h0 rfl rfl, cell_box h0 rfl rfl, cell_box h0 rfl rfl⟩
    have hbw : ∀ W', Below (w.heap.size + 1) w1 W' → Below w.heap.size w W' := fun W' h => hbe.trans (h.mono (by omega))
    have hle : ∀ W', Below (w.heap.size + 1) w1 W' → w.heap.size + 1 ≤ W'.heap.size := fun W' h => by have := h.size; omega
    have HCELL := Lib.hid hcell; have HBW := Lib.hid hbw; have HLE := Lib.hid hle; have HA := Lib.hid hA1; have HB := Lib.hid hB1; have HW1 := Lib.hid hw1; have HPS := Lib.hid hps; have HKS := Lib.hid hks; have HPL := Lib.hid hpl; have HKL := Lib.hid hkl; have IH := Lib.hid ih; have HN := Lib.hid hn; have HSK := Lib.hid hszk; have H3 := Lib.hid hm3; have H4 := Lib.hid hm4
    have B0 := Lib.hid (show Below (w.heap.size + 1) w1 w1 from Below.refl _ _)
    have hn2 : (n : Int) ≤ 2000 := by omega
    clear hcell hbw hle hA hB hA1 hB1 hw1 hps hks hpl hkl ih hn hszk hm1 hm2 hm3 hm4 ha0 ha1 ha2 hb0 hb1' hb2' hnew hbe hs1 hp hc
    go_enter Tryz.func43, Tryz.ntmps43
    go_upto_region 1 with fail
    rw [HW1.out]
    obtain ⟨c0, c1, c2, c3, c4, c5, c6, c7, c8, c9, c10, c11, c12, c13, c14, c15⟩ := HCELL.out _ B0.out
    go_wp2_with fail
    clear c0 c1 c2 c3 c4 c5 c6 c7 c8 c9 c10 c11 c12 c13 c14 c15
    refine (HA.out _ (HBW.out _ B0.out)).mono ?_
    rintro e w2 ⟨rfl, hb⟩
    have B2 := Lib.hid (B0.out.trans (hb.mono (HLE.out _ B0.out)))
    clear hb
    obtain ⟨c0, c1, c2, c3, c4, c5, c6, c7, c8, c9, c10, c11, c12, c13, c14, c15⟩ := HCELL.out _ B2.out
    go_wp2_with fail
    clear c0 c1 c2 c3 c4 c5 c6 c7 c8 c9 c10 c11 c12 c13 c14 c15
    refine (HB.out _ (HBW.out _ B2.out)).mono ?_
    rintro e w3 ⟨rfl, hb⟩
    have B3 := Lib.hid (B2.out.trans (hb.mono (HLE.out _ B2.out)))
    clear hb
    go_upto_block 0 with fail
    go_cut [1] (fun v wx => v = .int .i64 (m3 : Int) ∧ Below (w.heap.size + 1) w1 wx)
    case first =>
      go_wp2_with fail
      go_loopg [1, 5] pl (fun gk v1 v5 wr => ∃ (c i : Nat), v1 = .int .i64 (c : Int) ∧ v5 = .int .i64 (i : Int) ∧ i ≤ pl ∧ c ≤ 2001 ∧ pcs (ps.drop i) c = m3 ∧ Below (w.heap.size + 1) w1 wr ∧ gk = pl - i)
      case atStart => exact ⟨m2, 0, rfl, rfl, Nat.zero_le _, b2, by rw [List.drop_zero]; exact H3.out, B3.out, rfl⟩
      case round =>
        obtain ⟨c, i, rfl, rfl, hi, hc, hcn, hb, rfl⟩ := hrel
        obtain ⟨c0, c1, c2, c3, c4, c5, c6, c7, c8, c9, c10, c11, c12, c13, c14, c15⟩ := HCELL.out _ hb
        have BL := Lib.hid hb; have HCN := Lib.hid hcn
        clear hb hcn
        by_cases hlt : i < pl
        · by_cases hle : c ≤ 400
          · have hle' : (c : Int) ≤ 400 := by omega
            have hil : i < ps.length := by rw [HPL.out]; exact hlt
            have hk2 := PKids.mono (fun b o h => (HBW.out _ BL.out).cell (p := ⟨b, o, none⟩) h) (fun b h => Nat.lt_of_lt_of_le h (HBW.out _ BL.out).size) ps pa HPS.out (G' := LT wr.heap.size)
            obtain ⟨b, o, rfl, hbn, hN⟩ := hk2.first (by omega)
            obtain ⟨xa, xc, hat, hcs⟩ := (hN i hil).pat
            have hcall := countPat_any _ ps[i] xa xc c wr (Nat.le_refl _) (by omega) hat
            have hst := Ex.pcs_drop (l := ps) (k := i) (n := c) hil hle
            have hle2 := Tr.cnt_le ps[i] c
            obtain ⟨q, hq⟩ : ∃ q, ps[i] = q := ⟨_, rfl⟩
            rw [hq] at hcall hst hle2 hcs
            obtain ⟨e0, e1, e2, e3, e4, e5, e6⟩ := hcs
            obtain ⟨r, hr⟩ : ∃ r, Tr.cnt q c = r := ⟨_, rfl⟩
            rw [hr] at hcall hst hle2
            unfold pv at hcall
            have HCL := Lib.hid hcall; have HST := Lib.hid hst; have HL2 := Lib.hid hle2
            clear hcall hst hle2 hat hN hk2 hq hr
            go_wp2_with fail
            refine HCL.out.mono ?_
            rintro e w' ⟨rfl, hb'⟩
            clear c0 c1 c2 c3 c4 c5 c6 c7 c8 c9 c10 c11 c12 c13 c14 c15
            go_wp2_with fail
            go_roundg (pl - (i + 1))
            case measure => omega
            case rel => exact ⟨r, i + 1, rfl, by first | rfl | go_num, by omega, by have := HL2.out; omega, by rw [← HST.out]; exact HCN.out, BL.out.trans (hb'.mono (HLE.out _ BL.out)), rfl⟩
          · have hle' : ¬ (c : Int) ≤ 400 := by omega
            go_wp2_with fail
            go_meet
            exact ⟨by rw [← HCN.out, Ex.pcs_stop hle], BL.out⟩
        · obtain rfl : i = pl := by omega
          go_wp2_with fail
          go_meet
          refine ⟨?_, BL.out⟩
          rw [← HCN.out, List.drop_of_length_le (by rw [HPL.out]; exact Nat.le_refl _)]
          rfl
    case rest =>
      obtain ⟨rfl, hbc⟩ := hcut
      have B4 := Lib.hid hbc
      clear hbc
      go_upto_block 2 with fail
      go_cut [1] (fun v wx => v = .int .i64 (m4 : Int) ∧ Below (w.heap.size + 1) w1 wx)
      case first =>
        go_wp2_with fail
        go_loopg [1, 6] kl (fun gk v1 v6 wr => ∃ (c i : Nat), v1 = .int .i64 (c : Int) ∧ v6 = .int .i64 (i : Int) ∧ i ≤ kl ∧ c ≤ 2001 ∧ ecs (l.drop i) c = m4 ∧ Below (w.heap.size + 1) w1 wr ∧ gk = kl - i)
        case atStart => exact ⟨m3, 0, rfl, rfl, Nat.zero_le _, b3, by rw [List.drop_zero]; exact H4.out, B4.out, rfl⟩
        case round =>
          obtain ⟨c, i, rfl, rfl, hi, hc, hcn, hb, rfl⟩ := hrel
          obtain ⟨c0, c1, c2, c3, c4, c5, c6, c7, c8, c9, c10, c11, c12, c13, c14, c15⟩ := HCELL.out _ hb
          have BL := Lib.hid hb; have HCN := Lib.hid hcn
          clear hb hcn
          by_cases hlt : i < kl
          · by_cases hle : c ≤ 400
            · have hle' : (c : Int) ≤ 400 := by omega
              have hil : i < l.length := by rw [HKL.out]; exact hlt
              have hk2 := EKids.mono (fun b o h => (HBW.out _ BL.out).cell (p := ⟨b, o, none⟩) h) (fun b h => Nat.lt_of_lt_of_le h (HBW.out _ BL.out).size) l ka HKS.out (G' := LT wr.heap.size)
              obtain ⟨b, o, rfl, hbn, hN⟩ := hk2.first (by omega)
              obtain ⟨qs, hat, hcs⟩ := (hN i hil).parts
              have hcall := IH.out l[i] qs c wr (by have := HN.out; have := HSK.out; have := Ex.size_kid l i hil; simp only [Ex.E.kids] at *; omega) (by omega) hat
              have hst := Ex.ecs_drop (l := l) (k := i) (n := c) hil hle
              have hle2 := Ex.ec_le l[i] c
              obtain ⟨q, hq⟩ : ∃ q, l[i] = q := ⟨_, rfl⟩
              rw [hq] at hcall hst hle2 hcs
              have e0 : wr.cell? ⟨b, o + i * 16, none⟩ = some (.int .i64 q.kind) := hcs 0 _ rfl
              have e1 : wr.cell? ⟨b, o + i * 16 + 1, none⟩ = some (.int .i64 q.frm) := hcs 1 _ rfl
              have e2 : wr.cell? ⟨b, o + i * 16 + 2, none⟩ = some (.int .i64 q.til) := hcs 2 _ rfl
              have e3 : wr.cell? ⟨b, o + i * 16 + 3, none⟩ = some (.string ⟨q.nm.toArray⟩) := hcs 3 _ rfl
              have e4 : wr.cell? ⟨b, o + i * 16 + 4, none⟩ = some (.string ⟨q.ar.toArray⟩) := hcs 4 _ rfl
              have e5 : wr.cell? ⟨b, o + i * 16 + 5, none⟩ = some (.int .i64 q.num) := hcs 5 _ rfl
              have e6 : wr.cell? ⟨b, o + i * 16 + 6, none⟩ = some (.string ⟨q.s.toArray⟩) := hcs 6 _ rfl
              have e7 : wr.cell? ⟨b, o + i * 16 + 7, none⟩ = some (.int .i64 q.op) := hcs 7 _ rfl
              have e8 : wr.cell? ⟨b, o + i * 16 + 8, none⟩ = some (.int .i64 q.a.kind) := hcs 8 _ rfl
              have e9 : wr.cell? ⟨b, o + i * 16 + 9, none⟩ = some (.int .i64 q.a.num) := hcs 9 _ rfl
              have e10 : wr.cell? ⟨b, o + i * 16 + 10, none⟩ = some (.slice qs.aa q.a.kids.length qs.ac) := hcs 10 _ rfl
              have e11 : wr.cell? ⟨b, o + i * 16 + 11, none⟩ = some (.int .i64 q.b.kind) := hcs 11 _ rfl
              have e12 : wr.cell? ⟨b, o + i * 16 + 12, none⟩ = some (.int .i64 q.b.num) := hcs 12 _ rfl
              have e13 : wr.cell? ⟨b, o + i * 16 + 13, none⟩ = some (.slice qs.ba q.b.kids.length qs.bc) := hcs 13 _ rfl
              have e14 : wr.cell? ⟨b, o + i * 16 + 14, none⟩ = some (.slice qs.pa q.pats.length qs.pc) := hcs 14 _ rfl
              have e15 : wr.cell? ⟨b, o + i * 16 + 15, none⟩ = some (.slice qs.ka q.kids.length qs.kc) := hcs 15 _ rfl
              obtain ⟨r, hr⟩ : ∃ r, ec q c = r := ⟨_, rfl⟩
              rw [hr] at hcall hst hle2
              unfold ev evCells at hcall
              have HCL := Lib.hid hcall; have HST := Lib.hid hst; have HL2 := Lib.hid hle2
              clear hcall hst hle2 hat hN hk2 hq hr hcs
              go_wp2_with fail
              refine HCL.out.mono ?_
              rintro e w' ⟨rfl, hb'⟩
              clear c0 c1 c2 c3 c4 c5 c6 c7 c8 c9 c10 c11 c12 c13 c14 c15 e0 e1 e2 e3 e4 e5 e6 e7 e8 e9 e10 e11 e12 e13 e14 e15
              go_wp2_with fail
              go_roundg (kl - (i + 1))
              case measure => omega
              case rel => exact ⟨r, i + 1, rfl, by first | rfl | go_num, by omega, by have := HL2.out; omega, by rw [← HST.out]; exact HCN.out, BL.out.trans (hb'.mono (HLE.out _ BL.out)), rfl⟩
            · have hle' : ¬ (c : Int) ≤ 400 := by omega
              go_wp2_with fail
              go_meet
              exact ⟨by rw [← HCN.out, Ex.ecs_stop hle], BL.out⟩
          · obtain rfl : i = kl := by omega
            go_wp2_with fail
            go_meet
            refine ⟨?_, BL.out⟩
            rw [← HCN.out, List.drop_of_length_le (by rw [HKL.out]; exact Nat.le_refl _)]
            rfl
      case rest =>
        obtain ⟨rfl, hbc⟩ := hcut
        have B5 := Lib.hid hbc
        clear hbc
        obtain ⟨c0, c1, c2, c3, c4, c5, c6, c7, c8, c9, c10, c11, c12, c13, c14, c15⟩ := HCELL.out _ B5.out
        by_cases h1 : 300 < s.length
        · have h1' : (s.length : Int) > 300 := by omega
          go_wp2_with fail
          go_ret
          exact ⟨by first | rfl | (rw [if_pos (.inl h1)]; rfl), HBW.out _ B5.out⟩
        by_cases h2 : 300 < nm.length
        · have h1' : ¬ (s.length : Int) > 300 := by omega
          have h2' : (nm.length : Int) > 300 := by omega
          go_wp2_with fail
          go_ret
          exact ⟨by first | rfl | (rw [if_pos (.inr (.inl h2))]; rfl), HBW.out _ B5.out⟩
        by_cases h3 : 300 < ar.length
        · have h1' : ¬ (s.length : Int) > 300 := by omega
          have h2' : ¬ (nm.length : Int) > 300 := by omega
          have h3' : (ar.length : Int) > 300 := by omega
          go_wp2_with fail
          go_ret
          exact ⟨by first | rfl | (rw [if_pos (.inr (.inr h3))]; rfl), HBW.out _ B5.out⟩
        · have h1' : ¬ (s.length : Int) > 300 := by omega
          have h2' : ¬ (nm.length : Int) > 300 := by omega
          have h3' : ¬ (ar.length : Int) > 300 := by omega
          go_wp2_with fail
          go_ret
          exact ⟨by first | rfl | (rw [if_neg (by omega)]; rfl), HBW.out _ B5.out⟩
set_option maxRecDepth 100000 in
set_option maxHeartbeats 4000000 in
theorem heavy_any (l : List E) (a : Option Addr) (cap : Nat) (w : World) (hl : l.length ≤ 1000) (hk : EKids (LT w.heap.size) w l a) :
    Calls Tryz.prog 9 #[.slice a l.length cap] w fun r w' => r = .returned (.bool (decide (400 < hv l 0))) ∧ Below w.heap.size w w' := by
  obtain ⟨m, hm⟩ : ∃ m, l.length = m := ⟨_, rfl⟩
  obtain ⟨res, hres⟩ : ∃ res, decide (400 < hv l 0) = res := ⟨_, rfl⟩
  rw [hm, hres]
  have hm2 : (m : Int) ≤ 1000 := by omega
  have HR := Lib.hid hres
  clear hres
  have HK := Lib.hid hk; have HM := Lib.hid hm
  clear hk hm hl
  go_enter Tryz.func9, Tryz.ntmps9
  go_upto_region 3 with fail
  go_loopg [3, 4] m (fun gk v3 v4 wr => ∃ (c i : Nat), v3 = .int .i64 (c : Int) ∧ v4 = .int .i64 (i : Int) ∧ i ≤ m ∧ c ≤ 401 + i ∧ hv (l.drop i) c = hv l 0 ∧ Below w.heap.size w wr ∧ gk = m - i)
  case atStart => exact ⟨0, 0, rfl, rfl, Nat.zero_le _, Nat.zero_le _, by rw [List.drop_zero], Below.refl _ _, rfl⟩
  case round =>
    obtain ⟨c, i, rfl, rfl, hi, hc, hcn, hb, rfl⟩ := hrel
    have BL := Lib.hid hb; have HCN := Lib.hid hcn
    clear hb hcn
    by_cases hlt : i < m
    · have hil : i < l.length := by rw [HM.out]; exact hlt
      have hk2 := EKids.mono (fun b o h => BL.out.cell (p := ⟨b, o, none⟩) h) (fun b h => Nat.lt_of_lt_of_le h BL.out.size) l a HK.out (G' := LT wr.heap.size)
      obtain ⟨b, o, rfl, hbn, hN⟩ := hk2.first (by omega)
      obtain ⟨qs, hat, hcs⟩ := (hN i hil).parts
      have hcall := count_any _ l[i] qs c wr (Nat.le_refl _) (by omega) hat
      have hst := Ex.hv_drop (l := l) (k := i) (n := c) hil
      have hle2 := Ex.ec_le l[i] c
      obtain ⟨q, hq⟩ : ∃ q, l[i] = q := ⟨_, rfl⟩
      rw [hq] at hcall hst hle2 hcs
      have e0 : wr.cell? ⟨b, o + i * 16, none⟩ = some (.int .i64 q.kind) := hcs 0 _ rfl
      have e1 : wr.cell? ⟨b, o + i * 16 + 1, none⟩ = some (.int .i64 q.frm) := hcs 1 _ rfl
      have e2 : wr.cell? ⟨b, o + i * 16 + 2, none⟩ = some (.int .i64 q.til) := hcs 2 _ rfl
      have e3 : wr.cell? ⟨b, o + i * 16 + 3, none⟩ = some (.string ⟨q.nm.toArray⟩) := hcs 3 _ rfl
      have e4 : wr.cell? ⟨b, o + i * 16 + 4, none⟩ = some (.string ⟨q.ar.toArray⟩) := hcs 4 _ rfl
      have e5 : wr.cell? ⟨b, o + i * 16 + 5, none⟩ = some (.int .i64 q.num) := hcs 5 _ rfl
      have e6 : wr.cell? ⟨b, o + i * 16 + 6, none⟩ = some (.string ⟨q.s.toArray⟩) := hcs 6 _ rfl
      have e7 : wr.cell? ⟨b, o + i * 16 + 7, none⟩ = some (.int .i64 q.op) := hcs 7 _ rfl
      have e8 : wr.cell? ⟨b, o + i * 16 + 8, none⟩ = some (.int .i64 q.a.kind) := hcs 8 _ rfl
      have e9 : wr.cell? ⟨b, o + i * 16 + 9, none⟩ = some (.int .i64 q.a.num) := hcs 9 _ rfl
      have e10 : wr.cell? ⟨b, o + i * 16 + 10, none⟩ = some (.slice qs.aa q.a.kids.length qs.ac) := hcs 10 _ rfl
      have e11 : wr.cell? ⟨b, o + i * 16 + 11, none⟩ = some (.int .i64 q.b.kind) := hcs 11 _ rfl
      have e12 : wr.cell? ⟨b, o + i * 16 + 12, none⟩ = some (.int .i64 q.b.num) := hcs 12 _ rfl
      have e13 : wr.cell? ⟨b, o + i * 16 + 13, none⟩ = some (.slice qs.ba q.b.kids.length qs.bc) := hcs 13 _ rfl
      have e14 : wr.cell? ⟨b, o + i * 16 + 14, none⟩ = some (.slice qs.pa q.pats.length qs.pc) := hcs 14 _ rfl
      have e15 : wr.cell? ⟨b, o + i * 16 + 15, none⟩ = some (.slice qs.ka q.kids.length qs.kc) := hcs 15 _ rfl
      obtain ⟨r, hr⟩ : ∃ r, ec q c = r := ⟨_, rfl⟩
      rw [hr] at hcall hst hle2
      unfold ev evCells at hcall
      have HCL := Lib.hid hcall; have HST := Lib.hid hst; have HL2 := Lib.hid hle2
      clear hcall hst hle2 hat hN hk2 hq hr hcs
      go_wp2_with fail
      refine HCL.out.mono ?_
      rintro e w' ⟨rfl, hb'⟩
      clear e0 e1 e2 e3 e4 e5 e6 e7 e8 e9 e10 e11 e12 e13 e14 e15
      go_wp2_with fail
      go_roundg (m - (i + 1))
      case measure => omega
      case rel => exact ⟨r, i + 1, rfl, by first | rfl | go_num, by omega, by have := HL2.out; omega, by rw [← HST.out]; exact HCN.out, BL.out.trans (hb'.mono BL.out.size), rfl⟩
    · obtain rfl : i = m := by omega
      have hfin : hv l 0 = c := by rw [← HCN.out, List.drop_of_length_le (by rw [HM.out]; exact Nat.le_refl _)]; rfl
      have hr2 : res = decide (400 < c) := by rw [← HR.out, hfin]
      have HR2 := Lib.hid hr2
      clear hfin hr2
      by_cases hc4 : 400 < c
      · have h1' : (c : Int) > 400 := by omega
        go_wp2_with fail
        go_ret
        exact ⟨ret_boolP (by rw [HR2.out, decide_eq_true hc4]), BL.out⟩
      · have h1' : ¬ (c : Int) > 400 := by omega
        go_wp2_with fail
        go_ret
        exact ⟨ret_boolP (by rw [HR2.out, decide_eq_false hc4]), BL.out⟩
end Go.Proofs.YtmmhpibkjdlkgaaGreat

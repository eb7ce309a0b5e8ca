/- tree.visits' closure over two expressions at once, walked. tree.visits over two trees: the iterator's contract; tree.nodes over two trees, plainly. tree.nodes' closure over two patterns at once, walked. tree.nodes' closure over two expressions at once, walked. tree.nodes over two trees: the iterator's contract. -/
import Derived.Test.YtmmhpibkjdlkgaaGreatTsV
import Derived.Test.YtmmhpibkjdlkgaaGreatTeR
namespace Go.Proofs.YtmmhpibkjdlkgaaGreat
open Go Go.RowKit Go.Shelf

attribute [local go_sem] Oper.semAt_some

theorem info_v2E : (Tryz.prog.info? 153).map (fun i => (i.zero, i.size, i.bytes)) = some (some (.agg #[.pointer none, .pointer none, .int .i64 0, .int .i64 0]), 4, 32) := by kernel_rfl
theorem elem_v2E : Tryz.prog.underlying 169 = some (.slice (Tryz.prog.elem 169)) := by kernel_rfl
theorem size_v2E (w : World) : (sizeOf (Tryz.prog.elem 169)).run Tryz.prog w = .ok 4 w := by kernel_rfl
theorem v2E_pop (g n cap k : Nat) (hk : k ≤ n) (hn : n ≤ cap) (w' : World) :
    (Instr.slice 169 (.slice (some ⟨g, 0, none⟩) n cap) none (some (.int .i64 (k : Int))) none).run Tryz.prog w' = .ok (.slice (some ⟨g, 0, none⟩) k cap) w' := by
  rw [run_slice_h w' _ _ n cap elem_v2E .i64 (k : Int) (by omega) (by omega), size_v2E]
  simp [Result.andThen, sliced, add_flat]
theorem v2E_start {T : Type} {S : Shape T} {t0 : T} {p0 q0 : Option Addr} {W : World} {ok : (Nat → Prop) → List (V2 T) → V2 T → World → Prop}
    (hok : ok (fun k => k = W.heap.size) [] ⟨t0, p0, q0, 0, 1⟩ (W.alloc (.cells #[.pointer p0, .pointer q0, .int .i64 0, .int .i64 1] 153))) :
    V2Stk S t0 153 W.heap.size (fun k => k = W.heap.size) [⟨t0, p0, q0, 0, 1⟩] [] (.slice (some ⟨W.heap.size, 0, none⟩) 1 1) (W.alloc (.cells #[.pointer p0, .pointer q0, .int .i64 0, .int .i64 1] 153)) ok :=
  V2Stk.start ⟨rfl, .inr ⟨W.heap.size, 1, _, rfl, Nat.le_refl _, World.alloc_heap_new W _, Nat.le_refl _, by unfold maxLen; omega, rfl, rfl⟩⟩ (fun g hg => by injection hg with hg; exact hg.symm) hok

set_option maxRecDepth 100000 in
set_option maxHeartbeats 4000000 in
theorem visits2E_walk {T : Type} (S : Shape T) (t0 : T) (hsz : (S.vk t0 0 1).length ≤ 1000000) (Fr : Nat → Prop) (Bt Bk Bo l : Nat) (p0 q0 : Option Addr) (J Jx : (Nat → Prop) → List (V2 T) → World → Prop) (ok : (Nat → Prop) → List (V2 T) → V2 T → World → Prop) (W : World)
    (hJ : ∀ s, Ab W.heap.size fun M W' => J M s W') (hJx : ∀ s, Ab W.heap.size fun M W' => Jx M s W') (hO : ∀ s x, Ab W.heap.size fun M W' => ok M s x W') (hx0 : ok (fun _ => False) [] ⟨t0, p0, q0, 0, 1⟩ W)
    (hnx : ∀ M pre y W1, J M pre W1 → (∀ k, M k → W.heap.size ≤ k ∧ k < W1.heap.size) → W.heap.size ≤ W1.heap.size → y ∈ pre → Next2 124 Bo S W1 y fun x => ok M pre x W1)
    (hY : ∀ M pre x W1, J M pre W1 → (∀ k, M k → W.heap.size ≤ k ∧ k < W1.heap.size) → W.heap.size ≤ W1.heap.size → v2Ok S t0 pre x → (x.i = 0 → ok M pre x W1) → YieldAt Fence.wide 8 Tryz.prog l x.enc W1 fun e W' =>
      (e = .returned (.bool true) ∧ J M (pre ++ [x]) W' ∧ Turns (fun k => Fr k ∧ ¬ M k) W1 W') ∨ (e = .returned (.bool false) ∧ Jx M (pre ++ [x]) W' ∧ Turns (fun k => Fr k ∧ ¬ M k) W1 W'))
    (h0 : J (fun _ => False) [] W) (c0 : W.cell? ⟨Bt, 0, none⟩ = some (.pointer p0)) (c0' : W.cell? ⟨Bt, 1, none⟩ = some (.pointer q0)) (c1 : W.cell? ⟨Bk, 0, none⟩ = some (.func (.func 124) #[] #[.pointer (some ⟨Bo, 0, none⟩)])) (hBk : ¬ Fr Bk) :
    CallsIn Fence.wide 9 Tryz.prog 137 #[.func (.yield l) #[] #[], .pointer (some ⟨Bt, 0, none⟩), .pointer (some ⟨Bk, 0, none⟩)] W fun e W' => (∃ v, e = .returned v) ∧
      ((∃ M xs, v2All S t0 xs ∧ J M xs W' ∧ ∀ k, M k → W.heap.size ≤ k ∧ k < W'.heap.size) ∨ (∃ M pre, Jx M pre W' ∧ ∀ k, M k → W.heap.size ≤ k ∧ k < W'.heap.size)) := by
  have HY := Lib.hid hY; have HJ := Lib.hid hJ; have HX := Lib.hid hJx; have HO := Lib.hid hO; have HNX := Lib.hid hnx; clear hY hJ hJx hO hnx
  have hBW : Bk < W.heap.size := cell_lt c1
  refine callsIn_of_wp Tryz.func137 rfl trivial ?_ rfl
  simp only [Tryz.ntmps137, List.size_toArray, List.length_cons, List.length_nil, Nat.reduceAdd, Nat.reduceSub, Array.replicate_succ, Array.replicate_zero, List.push_toArray, List.append_toArray, List.nil_append, List.cons_append]
  gi_wp2
  gi_loopg [4] (S.vk t0 0 1).length (fun gk v wr => ∃ M R pre, V2Stk S t0 153 W.heap.size M R pre v wr ok ∧ J M pre wr ∧ (∀ k, M k → W.heap.size ≤ k ∧ k < wr.heap.size) ∧ W.heap.size ≤ wr.heap.size ∧ wr.cell? ⟨Bk, 0, none⟩ = some (.func (.func 124) #[] #[.pointer (some ⟨Bo, 0, none⟩)]) ∧ gk = (v2Todo S R).length)
  case atStart =>
    refine ⟨_, _, _, v2E_start (HO.out [] _ (fun _ => False) _ W _ hx0 (fun _ h => h.elim) (Turns.alloc _ _ _) (fun k hk => ⟨.inr (by omega), by simp; omega⟩)), HJ.out [] (fun _ => False) _ W _ h0 (fun _ h => h.elim) (Turns.alloc _ _ _) (fun k hk => ⟨.inr (by omega), by simp; omega⟩), fun k hk => ⟨by omega, by simp; omega⟩, by simp, ?_, by simp [v2Todo]⟩
    exact (World.cell?_of_block (a := ⟨Bk, 0, none⟩) (Below.heap_alloc _ _ _ hBW)).trans c1
  case round =>
    obtain ⟨M, R, pre, hS, hj, hM, hbs, ck, rfl⟩ := hrel
    have HS' := Lib.hid hS; have HJ' := Lib.hid hj; have HM' := Lib.hid hM; have HB := Lib.hid hbs
    clear hS hj hM hbs
    cases R with
    | nil =>
      obtain ⟨av, cv, rfl⟩ := own_shapeT HS'.out.own
      gi_wp2
      go_end0
      exact ⟨⟨_, rfl⟩, .inl ⟨M, pre, HS'.out.ends, HJ'.out, HM'.out⟩⟩
    | cons x R =>
      obtain ⟨g, cap, rfl, hg1, hg2, hcp, hcm, r0, rq, r1, r2, hown⟩ := v2_top (v := u4) HS'.out.own
      obtain ⟨r, hr⟩ : ∃ y, R.length = y := ⟨_, rfl⟩
      rw [hr] at r0 rq r1 r2 hcp hown ⊢
      obtain ⟨hxi, hxk, _⟩ := HS'.out.each x (by simp)
      have hlen := HS'.out.len
      rw [List.length_cons, hr] at hlen
      have hri : r + 1 ≤ 1000000 ∧ x.i ≤ 1000000 := by omega
      have hxd : (x.d : Int) = (r : Int) + 1 := by have := HS'.out.dep.1; rw [this, hr]; rfl
      obtain ⟨xi, hxi'⟩ : ∃ y, x.i = y := ⟨_, rfl⟩
      obtain ⟨xp, hxp'⟩ : ∃ y, x.p = y := ⟨_, rfl⟩
      obtain ⟨xq, hxq'⟩ : ∃ y, x.q = y := ⟨_, rfl⟩
      rw [hxi'] at r1 hri; rw [hxp'] at r0; rw [hxq'] at rq; rw [hxd] at r2
      have hbB : Bk < wr.heap.size := cell_lt ck
      have HMU := Lib.hid (show ∀ k, (M k ∨ k = wr.heap.size) → W.heap.size ≤ k ∧ k < wr.heap.size + 1 from fun k hk => by
        rcases hk with h | h
        · have := HM'.out k h; omega
        · have := HB.out; omega)
      obtain ⟨W1, hW1⟩ : ∃ W1, wr.alloc (.cells #[.pointer xp, .pointer xq, .int .i64 (xi : Int), .int .i64 ((r : Int) + 1)] 153) = W1 := ⟨_, rfl⟩
      have hT1 : Turns (fun _ => False) wr W1 := by rw [← hW1]; exact Turns.alloc _ _ _
      have hs1 : W1.heap.size = wr.heap.size + 1 := by rw [← hW1]; simp
      obtain ⟨fn, tmps, assign, body, hy, hRd⟩ := HY.out (fun k => M k ∨ k = wr.heap.size) pre x W1
        (HJ.out pre M _ wr _ HJ'.out HM'.out (hT1.mono fun _ _ h => h.elim) (fun k hk => ⟨hk.elim .inl (fun h => .inr (by omega)), by rw [hs1]; exact (HMU.out k hk).2⟩)) (fun k hk => ⟨(HMU.out k hk).1, by rw [hs1]; exact (HMU.out k hk).2⟩) (by have := HB.out; omega) HS'.out.at
        (fun hi => HO.out pre x M _ wr _ (HS'.out.top x R rfl hi) HM'.out (hT1.mono fun _ _ h => h.elim) (fun k hk => ⟨hk.elim .inl (fun h => .inr (by omega)), by rw [hs1]; exact (HMU.out k hk).2⟩))
      simp only [V2.enc, hxi', hxp', hxq', hxd] at hy
      have HRI := Lib.hid hri; have HXI := Lib.hid hxi'; have HXP := Lib.hid hxp'; have HXQ := Lib.hid hxq'; have HXD := Lib.hid hxd; have HXK := Lib.hid hxk; have HOWN := Lib.hid hown; have HCP := Lib.hid hcp; have HCM := Lib.hid hcm; have HG1 := Lib.hid hg1; have HG2 := Lib.hid hg2; have HT1 := Lib.hid hT1; have HS1 := Lib.hid hs1; have HR := Lib.hid hr; have HW1 := Lib.hid hW1; have HBB := Lib.hid hbB
      obtain ⟨hr1, hx1⟩ := hri
      clear hxi' hxp' hxq' hxd hxk hown hcp hcm hg1 hg2 hT1 hs1 hr hlen hxi hbB
      gi_upto_region 4 with fail
      try rw [hW1]
      have hb1 : W1.heap[wr.heap.size]? = some (.cells #[.pointer xp, .pointer xq, .int .i64 (xi : Int), .int .i64 ((r : Int) + 1)] 153) := by rw [← hW1]; exact World.alloc_heap_new wr _
      have d0 : W1.cell? ⟨wr.heap.size, 0, none⟩ = some (.pointer xp) := cell_box hb1 rfl rfl
      have dq : W1.cell? ⟨wr.heap.size, 1, none⟩ = some (.pointer xq) := cell_box hb1 rfl rfl
      have d1 : W1.cell? ⟨wr.heap.size, 2, none⟩ = some (.int .i64 (xi : Int)) := cell_box hb1 rfl rfl
      have d2 : W1.cell? ⟨wr.heap.size, 3, none⟩ = some (.int .i64 ((r : Int) + 1)) := cell_box hb1 rfl rfl
      have HB1 := Lib.hid hb1
      clear hb1 hW1
      gi_wp2
      refine hRd.mono ?_
      clear d0 dq d1 d2 r0 rq r1 r2 hy
      rintro e W3 (⟨rfl, hJ3, hT3⟩ | ⟨rfl, hJx3, hT3⟩)
      · have HT3 := Lib.hid hT3
        have hs3 : wr.heap.size + 1 ≤ W3.heap.size := by rw [← HS1.out]; exact hT3.size
        have hblk : ∀ k, k < wr.heap.size → (M k ∨ ¬ Fr k) → W3.heap[k]? = wr.heap[k]? := fun k hk h =>
          (HT3.out.block k (by rw [HS1.out]; omega) (fun h' => h.elim (fun m => h'.2 (.inl m)) (fun f => f h'.1))).trans (HT1.out.block k hk (fun h => h))
        have hbx : W3.heap[wr.heap.size]? = W1.heap[wr.heap.size]? := HT3.out.block _ (by rw [HS1.out]; omega) (fun h' => h'.2 (.inr rfl))
        have e0 : W3.cell? ⟨wr.heap.size, 0, none⟩ = some (.pointer xp) := cell_box HB1.out hbx rfl
        have eq : W3.cell? ⟨wr.heap.size, 1, none⟩ = some (.pointer xq) := cell_box HB1.out hbx rfl
        have e1 : W3.cell? ⟨wr.heap.size, 2, none⟩ = some (.int .i64 (xi : Int)) := cell_box HB1.out hbx rfl
        have e2 : W3.cell? ⟨wr.heap.size, 3, none⟩ = some (.int .i64 ((r : Int) + 1)) := cell_box HB1.out hbx rfl
        have ck3 : W3.cell? ⟨Bk, 0, none⟩ = some (.func (.func 124) #[] #[.pointer (some ⟨Bo, 0, none⟩)]) := (World.cell?_of_block (a := ⟨Bk, 0, none⟩) (hblk Bk HBB.out (.inr hBk))).trans ck
        have hMg : M g := HS'.out.mine g rfl
        have HMG := Lib.hid hMg
        have own3 : W3.ownsRow W.heap.size 153 4 (.slice (some ⟨g, 0, none⟩) (r + 1) cap) (r + 1) (v2Cells (x :: R).reverse) := own_same (by have := HS'.out.own; rw [List.length_cons, HR.out] at this; exact this) (fun y hy => hblk y (by injection hy with hy; subst hy; exact HG2.out) (.inl (by injection hy with hy; subst hy; exact hMg)))
        have pop3 : W3.ownsRow W.heap.size 153 4 (.slice (some ⟨g, 0, none⟩) r cap) r (v2Cells R.reverse) := own_same HOWN.out (fun y hy => hblk y (by injection hy with hy; subst hy; exact HG2.out) (.inl (by injection hy with hy; subst hy; exact hMg)))
        have hkid := HNX.out (fun k => M k ∨ k = wr.heap.size) (pre ++ [x]) x W3 hJ3 (fun k hk => ⟨(HMU.out k hk).1, Nat.lt_of_lt_of_le (HMU.out k hk).2 hs3⟩) (Nat.le_trans HB.out (by omega)) (by simp) HXK.out
        rw [HXP.out, HXQ.out, HXI.out] at hkid
        have HKID := Lib.hid hkid
        have HOWN3 := Lib.hid own3; have HPOP3 := Lib.hid pop3; have HBLK := Lib.hid hblk; have HJ3 := Lib.hid hJ3; have HS3 := Lib.hid hs3
        clear own3 pop3 hblk hJ3 hT3 hbx hMg hs3 hkid
        gi_wp2
        refine ⟨trivial, callsIn_wide.2 (HKID.out.mono ?_)⟩
        rintro e W' ⟨hTk, hres⟩
        rcases hres with ⟨hk, p', q', rfl, hok⟩ | ⟨hk, p, q, rfl⟩
        · obtain ⟨W5, hW5⟩ : ∃ W5, W'.alloc (.cells #[.pointer p', .pointer q'] 124) = W5 := ⟨_, rfl⟩
          have hT3k : Turns (fun _ => False) W3 W5 := by rw [← hW5]; exact hTk.trans (Turns.alloc _ _ _)
          have hb5 : W5.heap[W'.heap.size]? = some (.cells #[.pointer p', .pointer q'] 124) := by rw [← hW5]; exact World.alloc_heap_new W' _
          have keep : ∀ k, k < W3.heap.size → W5.heap[k]? = W3.heap[k]? := fun k hk => hT3k.block k hk (fun h => h)
          have hwr : wr.heap.size < W3.heap.size := HS3.out
          have ck4 : W5.cell? ⟨Bk, 0, none⟩ = some (.func (.func 124) #[] #[.pointer (some ⟨Bo, 0, none⟩)]) := (World.cell?_of_block (a := ⟨Bk, 0, none⟩) (keep Bk (cell_lt ck3))).trans ck3
          have f0 : W5.cell? ⟨wr.heap.size, 3, none⟩ = some (.int .i64 ((r : Int) + 1)) := (World.cell?_of_block (a := ⟨wr.heap.size, 3, none⟩) (keep _ hwr)).trans e2
          have own4 := own_same HOWN3.out (fun y hy => keep y (HOWN3.out.lt y hy).2)
          have pop4 := own_same HPOP3.out (fun y hy => keep y (HPOP3.out.lt y hy).2)
          have hs4 : wr.heap.size + 1 ≤ W5.heap.size := Nat.le_trans HS3.out hT3k.size
          have hJ4 := HJ.out (pre ++ [x]) (fun k => M k ∨ k = wr.heap.size) (fun k => M k ∨ k = wr.heap.size) W3 W5 HJ3.out (fun k hk => ⟨(HMU.out k hk).1, Nat.lt_of_lt_of_le (HMU.out k hk).2 HS3.out⟩) (hT3k.mono fun _ _ h => h.elim) (fun k hk => ⟨.inl hk, Nat.lt_of_lt_of_le (HMU.out k hk).2 hs4⟩)
          have n0 : W5.cell? ⟨W'.heap.size, 0, none⟩ = some (.pointer p') := cell_box hb5 rfl rfl
          have n1 : W5.cell? ⟨W'.heap.size, 1, none⟩ = some (.pointer q') := cell_box hb5 rfl rfl
          have hng : g < W'.heap.size := by have := HG2.out; have := HS3.out; have := hTk.size; omega
          have hnw : wr.heap.size < W'.heap.size := by have := HS3.out; have := hTk.size; omega
          have HOWN4 := Lib.hid own4; have HPOP4 := Lib.hid pop4; have HJ4 := Lib.hid hJ4; have HS4 := Lib.hid hs4; have HTK := Lib.hid hT3k; have HCK4 := Lib.hid ck4; have HNG := Lib.hid hng; have HNW := Lib.hid hnw; have HW5 := Lib.hid hW5
          clear own4 pop4 hJ4 hs4 keep hwr hTk hT3k e0 eq e1 e2 ck3 ck4 hb5 hng hnw hW5
          have hok4 := HO.out (pre ++ [x]) _ (fun k => M k ∨ k = wr.heap.size) (fun k => M k ∨ k = wr.heap.size) W3 W5 hok (fun k hk => ⟨(HMU.out k hk).1, Nat.lt_of_lt_of_le (HMU.out k hk).2 HS3.out⟩) (HTK.out.mono fun _ _ h => h.elim) (fun k hk => ⟨.inl hk, Nat.lt_of_lt_of_le (HMU.out k hk).2 HS4.out⟩)
          have HOK := Lib.hid hok4
          clear hok hok4
          obtain ⟨g', cap', hgc, hg1, hg2, hcp, hcm, r0, rq, r1, r2, hown⟩ := v2_top (R := R) (x := x) (w := W5) (base := W.heap.size) (e := 153) (v := .slice (some ⟨g, 0, none⟩) (r + 1) cap) (by rw [HR.out]; exact HOWN4.out)
          injection hgc with hgc hgr hgc2
          clear hgr
          injection hgc with hgc
          injection hgc with hgc
          subst hgc hgc2
          rw [HR.out] at r0 rq r1 r2 hcp
          rw [HXI.out] at r1
          clear hown hcp hcm hg1 hg2
          have hfz := HOWN4.out.frozenAt (r * 4 + 2)
          gi_upto_region 7 with fail
          rw [HW5.out]
          gi_upto_region 8 with fail
          have hbump := v2_bump (R := R) (x := x) (w := W5) (base := W.heap.size) (e := 153) (g := g) (cap := cap) (by rw [HR.out]; exact HOWN4.out)
          rw [HR.out, HXI.out] at hbump
          have HT4 := Lib.hid (show Turns (fun k => M k ∨ k = wr.heap.size) W5 (W5.setCell ⟨g, r * 4 + 2, none⟩ (.int .i64 ((xi : Int) + 1))) from Turns.setCell _ _ _ (.inl HMG.out))
          have hne : ∀ k, k ≠ g → (W5.setCell ⟨g, r * 4 + 2, none⟩ (.int .i64 ((xi : Int) + 1))).heap[k]? = W5.heap[k]? := fun k hk => Below.heap_setCell _ _ _ _ hk
          have f2 : (W5.setCell ⟨g, r * 4 + 2, none⟩ (.int .i64 ((xi : Int) + 1))).cell? ⟨wr.heap.size, 3, none⟩ = some (.int .i64 ((r : Int) + 1)) := (World.cell?_of_block (a := ⟨wr.heap.size, 3, none⟩) (hne _ (by have := HG2.out; dsimp only; omega))).trans f0
          have f3 : (W5.setCell ⟨g, r * 4 + 2, none⟩ (.int .i64 ((xi : Int) + 1))).cell? ⟨W'.heap.size, 0, none⟩ = some (.pointer p') := (World.cell?_of_block (a := ⟨W'.heap.size, 0, none⟩) (hne _ (by have := HNG.out; dsimp only; omega))).trans n0
          have f4 : (W5.setCell ⟨g, r * 4 + 2, none⟩ (.int .i64 ((xi : Int) + 1))).cell? ⟨W'.heap.size, 1, none⟩ = some (.pointer q') := (World.cell?_of_block (a := ⟨W'.heap.size, 1, none⟩) (hne _ (by have := HNG.out; dsimp only; omega))).trans n1
          clear hne r0 rq r1 r2 hfz f0 n0 n1
          generalize W5.setCell ⟨g, r * 4 + 2, none⟩ (.int .i64 ((xi : Int) + 1)) = W4 at hbump HT4 f2 f3 f4 ⊢
          have HBU := Lib.hid hbump
          clear hbump
          obtain ⟨i0, hi, hz0, hz1, hz2⟩ := info_parts info_v2E
          have HBB4 := Lib.hid (show W.heap.size ≤ (W4.alloc (.cells #[.pointer p', .pointer q', .int .i64 0, .int .i64 ((r : Int) + 1 + 1)] 153)).heap.size from by have := HT4.out.size; have := HS4.out; have := HB.out; simp; omega)
          gi_wp2_with (gi_at_builtin; refine wpListIn_append_lies _ rfl (.tmp 44) (.tmp 50) 169 rfl W.heap.size 153 i0 (.agg #[.pointer none, .pointer none, .int .i64 0, .int .i64 0]) 4 32 Tryz.underlying169 hi hz0 hz1 hz2 rfl (by decide) (.slice (some ⟨g, 0, none⟩) (r + 1) cap) (r + 1) (v2Cells (x.on :: R).reverse) rfl (HBU.out.alloc _) ⟨W4.heap.size, 0, none⟩ 1 1 [.pointer p', .pointer q', .int .i64 0, .int .i64 ((r : Int) + 1 + 1)] rfl rfl (World.news_of_block (World.alloc_heap_new W4 _)) (v2_cells _ _ _ _) (by decide) (v2_b1 HRI.out.1) (v2_b2 HRI.out.1) HBB4.out ?_; intro g1 cap1 w1 hown1 hgr1 hly1)
          have hx2 := HXI.out
          subst hx2
          have hT5 : Turns (fun k => M k ∨ k = wr.heap.size) W5 w1 := push_turns HT4.out hgr1 (fun k h _ => by cases h; exact .inl HMG.out)
          have hs5 := hT5.size
          have kidc : (⟨(S.kids x.t)[x.i], p', q', 0, x.d + 1⟩ : V2 T).cells = [.pointer p', .pointer q', .int .i64 0, .int .i64 ((r : Int) + 1 + 1)] := by
            show [Value.pointer p', .pointer q', .int .i64 ((0 : Nat) : Int), .int .i64 ((x.d + 1 : Nat) : Int)] = _
            rw [Int.natCast_add, HXD.out]; rfl
          have F := HS'.out.push (p := p') (q := q') (v5 := .slice (some ⟨g1, 0, none⟩) (r + 1 + 1) cap1) (W5 := w1) (M5 := fun k => ((M k ∨ k = wr.heap.size) ∨ W5.heap.size ≤ k) ∧ k < w1.heap.size) hk (by rw [HR.out, List.reverse_cons, v2Cells_snoc, kidc]; exact hown1)
            (fun y h => by
              injection h with h; subst h
              refine ⟨?_, (hown1.lt _ rfl).2⟩
              rcases lies_at hly1 with h | h
              · exact .inl (.inl (by rw [h]; exact HMG.out))
              · exact .inr (Nat.le_trans HT4.out.size h))
            (HO.out _ _ _ _ W5 w1 HOK.out (fun k h => ⟨(HMU.out k h).1, Nat.lt_of_lt_of_le (HMU.out k h).2 HS4.out⟩) hT5 (fun k h => h))
          have FF := Lib.hid F
          have HS5 := Lib.hid hs5; have HT5 := Lib.hid hT5
          clear F
          gi_roundg (v2Todo S ((⟨(S.kids x.t)[x.i], p', q', 0, x.d + 1⟩ : V2 T) :: x.on :: R)).length
          case measure => exact FF.out.2
          case rel =>
            refine ⟨_, _, _, FF.out.1, HJ.out _ _ _ W5 w1 HJ4.out (fun k h => ⟨(HMU.out k h).1, Nat.lt_of_lt_of_le (HMU.out k h).2 HS4.out⟩) HT5.out (fun k h => h), fun k h => ⟨?_, h.2⟩, ?_, ?_, rfl⟩
            · rcases h.1 with h | h
              · exact (HMU.out k h).1
              · exact Nat.le_trans (Nat.le_trans HB.out (Nat.le_of_succ_le HS4.out)) h
            · exact Nat.le_trans (Nat.le_trans HB.out (Nat.le_of_succ_le HS4.out)) HS5.out
            · exact (World.cell?_of_block (a := ⟨Bk, 0, none⟩) (HT5.out.block Bk (Nat.lt_of_lt_of_le HBB.out (Nat.le_of_succ_le HS4.out)) (fun h => by have := (HMU.out Bk h).1; omega))).trans HCK4.out
        · obtain ⟨W5, hW5⟩ : ∃ W5, W'.alloc (.cells #[.pointer p, .pointer q] 124) = W5 := ⟨_, rfl⟩
          have hT3k : Turns (fun _ => False) W3 W5 := by rw [← hW5]; exact hTk.trans (Turns.alloc _ _ _)
          have keep : ∀ k, k < W3.heap.size → W5.heap[k]? = W3.heap[k]? := fun k hk => hT3k.block k hk (fun h => h)
          have ck4 : W5.cell? ⟨Bk, 0, none⟩ = some (.func (.func 124) #[] #[.pointer (some ⟨Bo, 0, none⟩)]) := (World.cell?_of_block (a := ⟨Bk, 0, none⟩) (keep Bk (cell_lt ck3))).trans ck3
          have pop4 := own_same HPOP3.out (fun y hy => keep y (HPOP3.out.lt y hy).2)
          have hs4 : wr.heap.size + 1 ≤ W5.heap.size := Nat.le_trans HS3.out hT3k.size
          have hJ4 := HJ.out (pre ++ [x]) (fun k => M k ∨ k = wr.heap.size) (fun k => M k ∨ k = wr.heap.size) W3 W5 HJ3.out (fun k hk => ⟨(HMU.out k hk).1, Nat.lt_of_lt_of_le (HMU.out k hk).2 HS3.out⟩) (hT3k.mono fun _ _ h => h.elim) (fun k hk => ⟨.inl hk, Nat.lt_of_lt_of_le (HMU.out k hk).2 hs4⟩)
          have HPOP4 := Lib.hid pop4; have HJ4 := Lib.hid hJ4; have HS4 := Lib.hid hs4; have HCK4 := Lib.hid ck4; have HW5 := Lib.hid hW5
          clear pop4 hJ4 hs4 keep hTk hT3k e0 eq e1 e2 ck3 ck4 hW5
          have HK := Lib.hid hk
          clear hk
          have hpop := v2E_pop g (r + 1) cap r (by omega) HCP.out
          gi_wp2
          rw [HW5.out]
          gi_roundg (v2Todo S R).length
          case measure => exact (HS'.out.pop (by rw [HXI.out]; exact HK.out) (by rw [HR.out]; exact HPOP4.out) (M5 := M) (fun y hy => by injection hy with hy; subst hy; exact HMG.out)).2
          case rel => exact ⟨fun k => M k ∨ k = wr.heap.size, R, pre ++ [x], (HS'.out.pop (by rw [HXI.out]; exact HK.out) (by rw [HR.out]; exact HPOP4.out) (fun y hy => by injection hy with hy; subst hy; exact .inl HMG.out)).1, HJ4.out, fun k hk => ⟨(HMU.out k hk).1, Nat.lt_of_lt_of_le (HMU.out k hk).2 HS4.out⟩, Nat.le_trans HB.out (Nat.le_of_succ_le HS4.out), HCK4.out, rfl⟩
      · gi_wp2
        refine bodyPost_ret (results_none rfl _ _ _) rfl ?_
        exact ⟨⟨_, rfl⟩, .inr ⟨_, _, hJx3, fun k hk => ⟨(HMU.out k hk).1, Nat.lt_of_lt_of_le (HMU.out k hk).2 (Nat.le_trans (Nat.le_of_eq HS1.out.symm) hT3.size)⟩⟩⟩
end Go.Proofs.YtmmhpibkjdlkgaaGreat
namespace Go.Proofs.YtmmhpibkjdlkgaaGreat
open Go Go.RowKit Go.Shelf

attribute [local go_sem] Oper.semAt_some

theorem visits2P_seq {T : Type} (S : Shape T) (t0 : T) (hsz : (S.vk t0 0 1).length ≤ 1000000) (Fr : Nat → Prop) (Bt Bk Bo : Nat) (p0 q0 : Option Addr) (w : World) (c0 : w.cell? ⟨Bt, 0, none⟩ = some (.pointer p0)) (c0' : w.cell? ⟨Bt, 1, none⟩ = some (.pointer q0)) (c1 : w.cell? ⟨Bk, 0, none⟩ = some (.func (.func 153) #[] #[.pointer (some ⟨Bo, 0, none⟩)])) (hBk : ¬ Fr Bk) :
    SeqAt Tryz.prog 160 #[.pointer (some ⟨Bt, 0, none⟩), .pointer (some ⟨Bk, 0, none⟩)] V2.enc (v2All S t0) (v2Ok S t0) (fun x => x.i = 0) ⟨t0, p0, q0, 0, 1⟩ (Next2 153 Bo S) Fr w := fun l J Jx ok W hW hJ hJx hO hx0 hnx hY h0 => by
  have k0 := (World.cell?_of_block (a := ⟨Bt, 0, none⟩) (hW.block Bt (cell_lt c0))).trans c0
  have k0' := (World.cell?_of_block (a := ⟨Bt, 1, none⟩) (hW.block Bt (cell_lt c0'))).trans c0'
  have k1 := (World.cell?_of_block (a := ⟨Bk, 0, none⟩) (hW.block Bk (cell_lt c1))).trans c1
  exact callsIn_wide.1 (visits2P_walk S t0 hsz Fr Bt Bk Bo l p0 q0 J Jx ok W hJ hJx hO hx0 hnx hY h0 k0 k0' k1 hBk)
theorem visits2E_seq {T : Type} (S : Shape T) (t0 : T) (hsz : (S.vk t0 0 1).length ≤ 1000000) (Fr : Nat → Prop) (Bt Bk Bo : Nat) (p0 q0 : Option Addr) (w : World) (c0 : w.cell? ⟨Bt, 0, none⟩ = some (.pointer p0)) (c0' : w.cell? ⟨Bt, 1, none⟩ = some (.pointer q0)) (c1 : w.cell? ⟨Bk, 0, none⟩ = some (.func (.func 124) #[] #[.pointer (some ⟨Bo, 0, none⟩)])) (hBk : ¬ Fr Bk) :
    SeqAt Tryz.prog 137 #[.pointer (some ⟨Bt, 0, none⟩), .pointer (some ⟨Bk, 0, none⟩)] V2.enc (v2All S t0) (v2Ok S t0) (fun x => x.i = 0) ⟨t0, p0, q0, 0, 1⟩ (Next2 124 Bo S) Fr w := fun l J Jx ok W hW hJ hJx hO hx0 hnx hY h0 => by
  have k0 := (World.cell?_of_block (a := ⟨Bt, 0, none⟩) (hW.block Bt (cell_lt c0))).trans c0
  have k0' := (World.cell?_of_block (a := ⟨Bt, 1, none⟩) (hW.block Bt (cell_lt c0'))).trans c0'
  have k1 := (World.cell?_of_block (a := ⟨Bk, 0, none⟩) (hW.block Bk (cell_lt c1))).trans c1
  exact callsIn_wide.1 (visits2E_walk S t0 hsz Fr Bt Bk Bo l p0 q0 J Jx ok W hJ hJx hO hx0 hnx hY h0 k0 k0' k1 hBk)
variable {T : Type}
def nod2 (pre : List (V2 T)) : List (V2 T) := pre.filter fun x => x.i == 0
def n2Keys (S : Shape T) (t0 : T) : List (T × Nat × Nat) := (S.vk t0 0 1).filter fun k => k.2.1 == 0
def V2.enc2 (x : V2 T) : Array Value := #[.agg #[.pointer x.p, .pointer x.q], .int .i64 (x.d : Int)]
def no2All (S : Shape T) (t0 : T) (xs : List (V2 T)) : Prop := xs.map V2.key = n2Keys S t0
def no2Ok (S : Shape T) (t0 : T) (pre : List (V2 T)) (x : V2 T) : Prop := (∃ rest, pre.map V2.key ++ x.key :: rest = n2Keys S t0) ∧ x.i = 0 ∧ 0 < x.d
/-- Where a walk over nodes goes on from one that it has come to. -/
def Next2N (kf Bo : Nat) (S : Shape T) (W : World) (y : V2 T) (K : V2 T → Prop) : Prop := ∀ i, Next2 kf Bo S W { y with i := i } K
theorem nod2_keys (l : List (V2 T)) : (nod2 l).map V2.key = (l.map V2.key).filter fun k => k.2.1 == 0 := by
  rw [nod2, List.filter_map]; rfl
theorem nod2_snoc0 (pre : List (V2 T)) (x : V2 T) (h : x.i = 0) : nod2 (pre ++ [x]) = nod2 pre ++ [x] := by simp [nod2, h]
theorem nod2_snoc1 (pre : List (V2 T)) (x : V2 T) (h : ¬ x.i = 0) : nod2 (pre ++ [x]) = nod2 pre := by simp [nod2, h]
theorem no2Ok_of {S : Shape T} {t0 : T} {pre : List (V2 T)} {x : V2 T} (h : v2Ok S t0 pre x) (hx : x.i = 0) : no2Ok S t0 (nod2 pre) x := by
  obtain ⟨⟨rest, hr⟩, _, _, hd⟩ := h
  refine ⟨⟨rest.filter fun k => k.2.1 == 0, ?_⟩, hx, hd⟩
  rw [n2Keys, ← hr, nod2_keys, List.filter_append, List.filter_cons]
  simp [V2.key, hx]
theorem no2All_of {S : Shape T} {t0 : T} {xs : List (V2 T)} (h : v2All S t0 xs) : no2All S t0 (nod2 xs) := by
  rw [no2All, nod2_keys, n2Keys, ← h]
/-- Every node visited was visited first. -/
def firsts2 (pre : List (V2 T)) : Prop := ∀ y ∈ pre, ({ y with i := 0 } : V2 T) ∈ pre
theorem firsts2_snoc {S : Shape T} {t0 : T} {pre : List (V2 T)} {x : V2 T} (h : firsts2 pre) (hx : v2Ok S t0 pre x) : firsts2 (pre ++ [x]) := by
  intro y hy
  rcases List.mem_append.1 hy with hy | hy
  · exact List.mem_append_left _ (h y hy)
  · obtain rfl := List.mem_singleton.1 hy
    by_cases hi : y.i = 0
    · exact List.mem_append_right _ (by cases y; simp at hi; simp [hi])
    · obtain ⟨z, hz, e1, e2, e2', e3, e4⟩ := hx.2.1 (by omega)
      have := h z hz
      refine List.mem_append_left _ ?_
      have e : ({ y with i := 0 } : V2 T) = { z with i := 0 } := by cases y; cases z; simp at e1 e2 e2' e3; simp [e1, e2, e2', e3]
      rw [e]; exact this
theorem nod2_mem {pre : List (V2 T)} (h : firsts2 pre) {y : V2 T} (hy : y ∈ pre) : ({ y with i := 0 } : V2 T) ∈ nod2 pre := by
  simp only [nod2, List.mem_filter]
  exact ⟨h y hy, rfl⟩
theorem Next2.mono {kf Bo : Nat} {S : Shape T} {W : World} {y : V2 T} {K K' : V2 T → Prop} (hK : ∀ x, K x → K' x) (h : Next2 kf Bo S W y K) : Next2 kf Bo S W y K' := fun hi => (h hi).mono fun _ _ ⟨h1, h2⟩ => ⟨h1, h2.imp (fun ⟨a, p, q, b, c⟩ => ⟨a, p, q, b, hK _ c⟩) id⟩
end Go.Proofs.YtmmhpibkjdlkgaaGreat
namespace Go.Proofs.YtmmhpibkjdlkgaaGreat
open Go Go.RowKit Go.Shelf

attribute [local go_sem] Oper.semAt_some

set_option maxRecDepth 100000 in
set_option maxHeartbeats 4000000 in
theorem nodes2P_walk {T : Type} (S : Shape T) (t0 : T) (hsz : (S.vk t0 0 1).length ≤ 1000000) (Fr : Nat → Prop) (Bt Bk Bo l : Nat) (p0 q0 : Option Addr) (J Jx : (Nat → Prop) → List (V2 T) → World → Prop) (ok : (Nat → Prop) → List (V2 T) → V2 T → World → Prop) (W : World)
    (hJ : ∀ s, Ab W.heap.size fun M W' => J M s W') (hJx : ∀ s, Ab W.heap.size fun M W' => Jx M s W') (hO : ∀ s x, Ab W.heap.size fun M W' => ok M s x W') (hx0 : ok (fun _ => False) [] ⟨t0, p0, q0, 0, 1⟩ W)
    (hnx : ∀ M pre y W1, J M pre W1 → (∀ k, M k → W.heap.size ≤ k ∧ k < W1.heap.size) → W.heap.size ≤ W1.heap.size → y ∈ pre → Next2N 153 Bo S W1 y fun x => ok M pre x W1)
    (hY : ∀ M pre x W1, J M pre W1 → (∀ k, M k → W.heap.size ≤ k ∧ k < W1.heap.size) → W.heap.size ≤ W1.heap.size → no2Ok S t0 pre x → ok M pre x W1 → YieldAt Fence.wide 8 Tryz.prog l x.enc2 W1 fun e W' =>
      (e = .returned (.bool true) ∧ J M (pre ++ [x]) W' ∧ Turns (fun k => Fr k ∧ ¬ M k) W1 W') ∨ (e = .returned (.bool false) ∧ Jx M (pre ++ [x]) W' ∧ Turns (fun k => Fr k ∧ ¬ M k) W1 W'))
    (h0 : J (fun _ => False) [] W) (hFr : ∀ k, W.heap.size ≤ k → Fr k) (c0 : W.cell? ⟨Bt, 0, none⟩ = some (.pointer p0)) (cq : W.cell? ⟨Bt, 1, none⟩ = some (.pointer q0)) (c1 : W.cell? ⟨Bk, 0, none⟩ = some (.func (.func 153) #[] #[.pointer (some ⟨Bo, 0, none⟩)])) :
    CallsIn Fence.wide 9 Tryz.prog 151 #[.func (.yield l) #[] #[], .pointer (some ⟨Bt, 0, none⟩), .pointer (some ⟨Bk, 0, none⟩)] W fun e W' => (∃ v, e = .returned v) ∧
      ((∃ M xs, no2All S t0 xs ∧ J M xs W' ∧ ∀ k, M k → W.heap.size ≤ k ∧ k < W'.heap.size) ∨ (∃ M pre, Jx M pre W' ∧ ∀ k, M k → W.heap.size ≤ k ∧ k < W'.heap.size)) := by
  have HY := Lib.hid hY; have HJ := Lib.hid hJ; have HX := Lib.hid hJx; have HO := Lib.hid hO; have HNX := Lib.hid hnx; have HFR := Lib.hid hFr; clear hY hJ hJx hO hnx hFr
  have HV := Lib.hid (visits2P_any p0 q0 (.func (.func 153) #[] #[.pointer (some ⟨Bo, 0, none⟩)]) ⟨_, _, rfl⟩)
  have hl0 : Bt < W.heap.size := cell_lt c0
  have hl1 : Bk < W.heap.size := cell_lt c1
  have c0' : (W.alloc (.cells #[.func (.yield l) #[] #[]] 192)).cell? ⟨Bt, 0, none⟩ = some (.pointer p0) := (World.cell?_of_block (a := ⟨Bt, 0, none⟩) (Below.heap_alloc _ _ _ hl0)).trans c0
  have cq' : (W.alloc (.cells #[.func (.yield l) #[] #[]] 192)).cell? ⟨Bt, 1, none⟩ = some (.pointer q0) := (World.cell?_of_block (a := ⟨Bt, 1, none⟩) (Below.heap_alloc _ _ _ hl0)).trans cq
  have c1' : (W.alloc (.cells #[.func (.yield l) #[] #[]] 192)).cell? ⟨Bk, 0, none⟩ = some (.func (.func 153) #[] #[.pointer (some ⟨Bo, 0, none⟩)]) := (World.cell?_of_block (a := ⟨Bk, 0, none⟩) (Below.heap_alloc _ _ _ hl1)).trans c1
  refine callsIn_of_wp_marks Tryz.func151 rfl trivial ?_ rfl
  simp only [Tryz.ntmps151, List.size_toArray, List.length_cons, List.length_nil, Nat.reduceAdd, Nat.reduceSub, Array.replicate_succ, Array.replicate_zero, List.push_toArray, List.append_toArray, List.nil_append, List.cons_append]
  gi_wp2_with (refine ⟨trivial, ?_⟩; gi_at_call 152; refine (callsIn_wide.2 (HV.out _)).mono ?_; rintro e w' ⟨rfl, rfl⟩)
  clear c0 cq c1 c0' cq' c1' hl0 hl1
  obtain ⟨W3, hW3⟩ : ∃ W3, ((W.alloc (.cells #[.func (.yield l) #[] #[]] 192)).alloc (.cells #[.pointer p0, .pointer q0] 175)).alloc (.cells #[.func (.func 153) #[] #[.pointer (some ⟨Bo, 0, none⟩)]] 177) = W3 := ⟨_, rfl⟩
  try rw [hW3]
  have hs3 : W3.heap.size = W.heap.size + 3 := by rw [← hW3]; simp
  have hT3 : Turns (fun _ => False) W W3 := by rw [← hW3]; exact ((Turns.alloc _ _ _).trans (Turns.alloc _ _ _)).trans (Turns.alloc _ _ _)
  have hy3 : W3.heap[W.heap.size]? = some (.cells #[.func (.yield l) #[] #[]] 192) := by rw [← hW3]; exact (Below.heap_alloc _ _ _ (by simp; omega)).trans (box1 _ _ _ _ _)
  have hp3 : W3.cell? ⟨W.heap.size + 1, 0, none⟩ = some (.pointer p0) := by rw [← hW3]; exact cell_box (box2 _ _ _ _ _) (Below.heap_alloc _ _ _ (by simp)) rfl
  have hq3 : W3.cell? ⟨W.heap.size + 1, 1, none⟩ = some (.pointer q0) := by rw [← hW3]; exact cell_box (box2 _ _ _ _ _) (Below.heap_alloc _ _ _ (by simp)) rfl
  have hk3 : W3.cell? ⟨W.heap.size + 2, 0, none⟩ = some (.func (.func 153) #[] #[.pointer (some ⟨Bo, 0, none⟩)]) := by
    have := World.alloc_heap_new ((W.alloc (.cells #[.func (.yield l) #[] #[]] 192)).alloc (.cells #[.pointer p0, .pointer q0] 175)) (.cells #[.func (.func 153) #[] #[.pointer (some ⟨Bo, 0, none⟩)]] 177)
    rw [hW3] at this
    simp at this
    exact cell_box this rfl rfl
  obtain ⟨E, hE⟩ : ∃ E : Nat → Prop, E = fun k => W.heap.size ≤ k ∧ k < W.heap.size + 3 := ⟨_, rfl⟩
  have he : ∀ k, E k ↔ (W.heap.size ≤ k ∧ k < W.heap.size + 3) := fun k => by rw [hE]
  have hEb : ∀ k, E k → W.heap.size ≤ k ∧ k < W3.heap.size := fun k h => by have := (he k).1 h; omega
  have hle3 : W.heap.size ≤ W3.heap.size := by omega
  have up : ∀ {M : Nat → Prop} {A : World}, (∀ k, M k → W3.heap.size ≤ k ∧ k < A.heap.size) → W3.heap.size ≤ A.heap.size → ∀ k, (M k ∨ E k) → W.heap.size ≤ k ∧ k < A.heap.size := fun h hA k hk => by
    rcases hk with x | x
    · have := h k x; omega
    · have := (he k).1 x; omega
  have hst : ∀ {p : (Nat → Prop) → World → Prop}, Ab W.heap.size p → p (fun _ => False) W → W3.heap.size ≤ W3.heap.size ∧ p (fun k => False ∨ E k) W3 := fun hp h => ⟨Nat.le_refl _, hp _ _ W W3 h (fun _ h => h.elim) hT3 (fun k hk => by
    rcases hk with h | h
    · exact h.elim
    · have := (he k).1 h; exact ⟨.inr (by omega), by omega⟩)⟩
  have hFE : ∀ k, W3.heap.size ≤ k → Fr k ∧ ¬ E k := fun k h => ⟨HFR.out k (by omega), fun h' => by have := (he k).1 h'; omega⟩
  have nY : ∀ {M : Nat → Prop} {A : World}, (∀ k, M k → W3.heap.size ≤ k ∧ k < A.heap.size) → ¬ M W.heap.size := fun h x => by have := h _ x; omega
  refine wpIn_range_at (gf := 160) (lb := #[.pointer (some ⟨W.heap.size + 1, 0, none⟩), .pointer (some ⟨W.heap.size + 2, 0, none⟩)]) rfl (enters_of Tryz.func160 (by kernel_rfl) rfl)
    (visits2P_seq S t0 hsz (fun k => Fr k ∧ ¬ E k) (W.heap.size + 1) (W.heap.size + 2) Bo p0 q0 W3 hp3 hq3 hk3 (fun h => h.2 ((he _).2 ⟨by omega, by omega⟩)))
    (fun _ _ _ _ hK h => Next2.mono hK h) (Below.refl _ _) hFE (fun _ => rfl)
    (fun M pre V => (W3.heap.size ≤ V.heap.size ∧ J (fun k => M k ∨ E k) (nod2 pre) V) ∧ (V.heap[W.heap.size]? = some (.cells #[.func (.yield l) #[] #[]] 192) ∧ ¬ M W.heap.size) ∧ firsts2 pre)
    (fun M pre x V => W3.heap.size ≤ V.heap.size ∧ ok (fun k => M k ∨ E k) (nod2 pre) x V)
    (fun c M pre V => c = .ret ∧ W3.heap.size ≤ V.heap.size ∧ Jx (fun k => M k ∨ E k) (nod2 pre) V)
    (fun x a' M V => ∃ A, a' = { tmps := #[.func (.yield l) #[] #[], .pointer (some ⟨Bt, 0, none⟩), .pointer (some ⟨Bk, 0, none⟩), .pointer (some ⟨W.heap.size, 0, none⟩), .pointer (some ⟨A, 0, none⟩), .agg #[.pointer p0, .pointer q0], .func (.func 153) #[] #[.pointer (some ⟨Bo, 0, none⟩)], .func (.func 160) #[] #[.pointer (some ⟨W.heap.size + 1, 0, none⟩), .pointer (some ⟨W.heap.size + 2, 0, none⟩)], .agg #[.pointer x.p, .pointer x.q, .int .i64 (x.i : Int), .int .i64 (x.d : Int)], undef, undef, undef, undef, undef, undef, undef, undef, undef, undef, undef, undef], defers := [] } ∧ V.heap[A]? = some (.cells #[.pointer x.p, .pointer x.q, .int .i64 (x.i : Int), .int .i64 (x.d : Int)] 197) ∧ ¬ M A)
    (fun s => Ab.and (Ab.plus (HJ.out (nod2 s)) E hEb hle3) (Ab.and (Ab.block _ _ _) (Ab.pure _ _))) (fun _ s => Ab.and (Ab.pure _ _) (Ab.plus (HX.out (nod2 s)) E hEb hle3)) (fun _ _ => Ab.ex fun _ => Ab.and (Ab.pure _ _) (Ab.block _ _ _))
    ⟨hst (HJ.out []) h0, ⟨hy3, fun h => h⟩, fun _ h => by cases h⟩ (fun s x => Ab.plus (HO.out (nod2 s) x) E hEb hle3) (hst (HO.out [] _) hx0) ?next ?assign ?body ?done ?stop
  case next =>
    rintro M pre y V ⟨⟨h1, h2⟩, _, h3⟩ hM hV hy
    exact Next2.mono (fun x hx => ⟨h1, hx⟩) (HNX.out _ _ _ V h2 (up hM hV) (Nat.le_trans hle3 hV) (nod2_mem h3 hy) y.i)
  case assign =>
    intro l' M pre x V K hi hM hok hf hK
    clear hp3 hq3 hk3 hy3
    simp [V2.enc]
    gi_wp2
    refine hK _ _ (Turns.alloc _ _ _) ⟨V.heap.size, rfl, World.alloc_heap_new V _, fun h => by have := (hM _ h).2; omega⟩
  case body =>
    rintro l' M pre x a' V ⟨⟨h1, h2⟩, ⟨h3, h4⟩, h5⟩ hM hle hok hf ⟨A, rfl, h6, h7⟩
    clear hp3 hq3 hk3 hy3
    have h60 : V.cell? ⟨A, 0, none⟩ = some (.pointer x.p) := cell_box h6 rfl rfl
    have h6q : V.cell? ⟨A, 1, none⟩ = some (.pointer x.q) := cell_box h6 rfl rfl
    have h61 : V.cell? ⟨A, 2, none⟩ = some (.int .i64 (x.i : Int)) := cell_box h6 rfl rfl
    have h62 : V.cell? ⟨A, 3, none⟩ = some (.int .i64 (x.d : Int)) := cell_box h6 rfl rfl
    have h30 : V.cell? ⟨W.heap.size, 0, none⟩ = some (.func (.yield l) #[] #[]) := cell_box h3 rfl rfl
    have H3 := Lib.hid h3
    clear h3 h6
    by_cases hi : x.i = 0
    · have hc : ((x.i : Int) == 0) = true := by rw [hi]; rfl
      obtain ⟨fn, tmps, assign, body, hy, hRd⟩ := HY.out (fun k => M k ∨ E k) (nod2 pre) x V h2 (up hM hle) (Nat.le_trans hle3 hle) (no2Ok_of hok hi) (hf hi).2
      simp only [V2.enc2] at hy
      gi_wp2
      refine (round_in hRd).mono ?_
      rintro e V2 (⟨rfl, hJ2, hT2⟩ | ⟨rfl, hJ2, hT2⟩)
      · gi_wp2
        exact ⟨hT2.mono (fun k _ h => ⟨⟨h.1, fun e => h.2 (.inr e)⟩, fun m => h.2 (.inl m)⟩), ⟨⟨Nat.le_trans h1 hT2.size, by rw [nod2_snoc0 _ _ hi]; exact hJ2⟩, ⟨hT2.heap H3.out (fun h => h.2 (.inr ((he _).2 ⟨Nat.le_refl _, by omega⟩))), h4⟩, firsts2_snoc h5 hok⟩⟩
      · gi_wp2
        exact ⟨hT2.mono (fun k _ h => ⟨⟨h.1, fun e => h.2 (.inr e)⟩, fun m => h.2 (.inl m)⟩), rfl, Nat.le_trans h1 hT2.size, by rw [nod2_snoc0 _ _ hi]; exact hJ2⟩
    · have hc : ((x.i : Int) == 0) = false := by simpa using hi
      gi_wp2
      refine ⟨(fun _ h => by cases h), ?_⟩
      gi_wp2
      exact ⟨Turns.refl _ _, ⟨⟨h1, by rw [nod2_snoc1 _ _ hi]; exact h2⟩, ⟨H3.out, h4⟩, firsts2_snoc h5 hok⟩⟩
  case done =>
    rintro D M xs V hD hMD hM hS ⟨⟨h1, h2⟩, _⟩ hK
    clear hp3 hq3 hk3 hy3
    gi_wp2
    refine ⟨by simp, .inl ⟨_, _, rfl, run_takeDeferred hK, ?_⟩⟩
    exact ⟨_, results_none rfl _ _ _, ⟨_, rfl⟩, .inl ⟨fun k => M k ∨ E k, nod2 xs, no2All_of hS, HJ.out _ _ _ V _ h2 (up hM h1) (Turns.putObj V D _ (.inl hMD)) (fun k h => ⟨.inl h, by rw [World.putObj_size]; exact (up hM h1 k h).2⟩), fun k h => by rw [World.putObj_size]; exact up hM h1 k h⟩⟩
  case stop =>
    rintro D M c pre V hD hMD hM ⟨rfl, h1, h2⟩ hK
    clear hp3 hq3 hk3 hy3
    gi_wp2
    refine ⟨by simp, .inl ⟨_, _, rfl, run_takeDeferred hK, ?_⟩⟩
    exact ⟨_, results_none rfl _ _ _, ⟨_, rfl⟩, .inr ⟨fun k => M k ∨ E k, nod2 pre, HX.out _ _ _ V _ h2 (up hM h1) (Turns.putObj V D _ (.inl hMD)) (fun k h => ⟨.inl h, by rw [World.putObj_size]; exact (up hM h1 k h).2⟩), fun k h => by rw [World.putObj_size]; exact up hM h1 k h⟩⟩
end Go.Proofs.YtmmhpibkjdlkgaaGreat
namespace Go.Proofs.YtmmhpibkjdlkgaaGreat
open Go Go.RowKit Go.Shelf

attribute [local go_sem] Oper.semAt_some

set_option maxRecDepth 100000 in
set_option maxHeartbeats 4000000 in
theorem nodes2E_walk {T : Type} (S : Shape T) (t0 : T) (hsz : (S.vk t0 0 1).length ≤ 1000000) (Fr : Nat → Prop) (Bt Bk Bo l : Nat) (p0 q0 : Option Addr) (J Jx : (Nat → Prop) → List (V2 T) → World → Prop) (ok : (Nat → Prop) → List (V2 T) → V2 T → World → Prop) (W : World)
    (hJ : ∀ s, Ab W.heap.size fun M W' => J M s W') (hJx : ∀ s, Ab W.heap.size fun M W' => Jx M s W') (hO : ∀ s x, Ab W.heap.size fun M W' => ok M s x W') (hx0 : ok (fun _ => False) [] ⟨t0, p0, q0, 0, 1⟩ W)
    (hnx : ∀ M pre y W1, J M pre W1 → (∀ k, M k → W.heap.size ≤ k ∧ k < W1.heap.size) → W.heap.size ≤ W1.heap.size → y ∈ pre → Next2N 124 Bo S W1 y fun x => ok M pre x W1)
    (hY : ∀ M pre x W1, J M pre W1 → (∀ k, M k → W.heap.size ≤ k ∧ k < W1.heap.size) → W.heap.size ≤ W1.heap.size → no2Ok S t0 pre x → ok M pre x W1 → YieldAt Fence.wide 8 Tryz.prog l x.enc2 W1 fun e W' =>
      (e = .returned (.bool true) ∧ J M (pre ++ [x]) W' ∧ Turns (fun k => Fr k ∧ ¬ M k) W1 W') ∨ (e = .returned (.bool false) ∧ Jx M (pre ++ [x]) W' ∧ Turns (fun k => Fr k ∧ ¬ M k) W1 W'))
    (h0 : J (fun _ => False) [] W) (hFr : ∀ k, W.heap.size ≤ k → Fr k) (c0 : W.cell? ⟨Bt, 0, none⟩ = some (.pointer p0)) (cq : W.cell? ⟨Bt, 1, none⟩ = some (.pointer q0)) (c1 : W.cell? ⟨Bk, 0, none⟩ = some (.func (.func 124) #[] #[.pointer (some ⟨Bo, 0, none⟩)])) :
    CallsIn Fence.wide 9 Tryz.prog 122 #[.func (.yield l) #[] #[], .pointer (some ⟨Bt, 0, none⟩), .pointer (some ⟨Bk, 0, none⟩)] W fun e W' => (∃ v, e = .returned v) ∧
      ((∃ M xs, no2All S t0 xs ∧ J M xs W' ∧ ∀ k, M k → W.heap.size ≤ k ∧ k < W'.heap.size) ∨ (∃ M pre, Jx M pre W' ∧ ∀ k, M k → W.heap.size ≤ k ∧ k < W'.heap.size)) := by
  have HY := Lib.hid hY; have HJ := Lib.hid hJ; have HX := Lib.hid hJx; have HO := Lib.hid hO; have HNX := Lib.hid hnx; have HFR := Lib.hid hFr; clear hY hJ hJx hO hnx hFr
  have HV := Lib.hid (visits2E_any p0 q0 (.func (.func 124) #[] #[.pointer (some ⟨Bo, 0, none⟩)]) ⟨_, _, rfl⟩)
  have hl0 : Bt < W.heap.size := cell_lt c0
  have hl1 : Bk < W.heap.size := cell_lt c1
  have c0' : (W.alloc (.cells #[.func (.yield l) #[] #[]] 148)).cell? ⟨Bt, 0, none⟩ = some (.pointer p0) := (World.cell?_of_block (a := ⟨Bt, 0, none⟩) (Below.heap_alloc _ _ _ hl0)).trans c0
  have cq' : (W.alloc (.cells #[.func (.yield l) #[] #[]] 148)).cell? ⟨Bt, 1, none⟩ = some (.pointer q0) := (World.cell?_of_block (a := ⟨Bt, 1, none⟩) (Below.heap_alloc _ _ _ hl0)).trans cq
  have c1' : (W.alloc (.cells #[.func (.yield l) #[] #[]] 148)).cell? ⟨Bk, 0, none⟩ = some (.func (.func 124) #[] #[.pointer (some ⟨Bo, 0, none⟩)]) := (World.cell?_of_block (a := ⟨Bk, 0, none⟩) (Below.heap_alloc _ _ _ hl1)).trans c1
  refine callsIn_of_wp_marks Tryz.func122 rfl trivial ?_ rfl
  simp only [Tryz.ntmps122, List.size_toArray, List.length_cons, List.length_nil, Nat.reduceAdd, Nat.reduceSub, Array.replicate_succ, Array.replicate_zero, List.push_toArray, List.append_toArray, List.nil_append, List.cons_append]
  gi_wp2_with (refine ⟨trivial, ?_⟩; gi_at_call 123; refine (callsIn_wide.2 (HV.out _)).mono ?_; rintro e w' ⟨rfl, rfl⟩)
  clear c0 cq c1 c0' cq' c1' hl0 hl1
  obtain ⟨W3, hW3⟩ : ∃ W3, ((W.alloc (.cells #[.func (.yield l) #[] #[]] 148)).alloc (.cells #[.pointer p0, .pointer q0] 124)).alloc (.cells #[.func (.func 124) #[] #[.pointer (some ⟨Bo, 0, none⟩)]] 126) = W3 := ⟨_, rfl⟩
  try rw [hW3]
  have hs3 : W3.heap.size = W.heap.size + 3 := by rw [← hW3]; simp
  have hT3 : Turns (fun _ => False) W W3 := by rw [← hW3]; exact ((Turns.alloc _ _ _).trans (Turns.alloc _ _ _)).trans (Turns.alloc _ _ _)
  have hy3 : W3.heap[W.heap.size]? = some (.cells #[.func (.yield l) #[] #[]] 148) := by rw [← hW3]; exact (Below.heap_alloc _ _ _ (by simp; omega)).trans (box1 _ _ _ _ _)
  have hp3 : W3.cell? ⟨W.heap.size + 1, 0, none⟩ = some (.pointer p0) := by rw [← hW3]; exact cell_box (box2 _ _ _ _ _) (Below.heap_alloc _ _ _ (by simp)) rfl
  have hq3 : W3.cell? ⟨W.heap.size + 1, 1, none⟩ = some (.pointer q0) := by rw [← hW3]; exact cell_box (box2 _ _ _ _ _) (Below.heap_alloc _ _ _ (by simp)) rfl
  have hk3 : W3.cell? ⟨W.heap.size + 2, 0, none⟩ = some (.func (.func 124) #[] #[.pointer (some ⟨Bo, 0, none⟩)]) := by
    have := World.alloc_heap_new ((W.alloc (.cells #[.func (.yield l) #[] #[]] 148)).alloc (.cells #[.pointer p0, .pointer q0] 124)) (.cells #[.func (.func 124) #[] #[.pointer (some ⟨Bo, 0, none⟩)]] 126)
    rw [hW3] at this
    simp at this
    exact cell_box this rfl rfl
  obtain ⟨E, hE⟩ : ∃ E : Nat → Prop, E = fun k => W.heap.size ≤ k ∧ k < W.heap.size + 3 := ⟨_, rfl⟩
  have he : ∀ k, E k ↔ (W.heap.size ≤ k ∧ k < W.heap.size + 3) := fun k => by rw [hE]
  have hEb : ∀ k, E k → W.heap.size ≤ k ∧ k < W3.heap.size := fun k h => by have := (he k).1 h; omega
  have hle3 : W.heap.size ≤ W3.heap.size := by omega
  have up : ∀ {M : Nat → Prop} {A : World}, (∀ k, M k → W3.heap.size ≤ k ∧ k < A.heap.size) → W3.heap.size ≤ A.heap.size → ∀ k, (M k ∨ E k) → W.heap.size ≤ k ∧ k < A.heap.size := fun h hA k hk => by
    rcases hk with x | x
    · have := h k x; omega
    · have := (he k).1 x; omega
  have hst : ∀ {p : (Nat → Prop) → World → Prop}, Ab W.heap.size p → p (fun _ => False) W → W3.heap.size ≤ W3.heap.size ∧ p (fun k => False ∨ E k) W3 := fun hp h => ⟨Nat.le_refl _, hp _ _ W W3 h (fun _ h => h.elim) hT3 (fun k hk => by
    rcases hk with h | h
    · exact h.elim
    · have := (he k).1 h; exact ⟨.inr (by omega), by omega⟩)⟩
  have hFE : ∀ k, W3.heap.size ≤ k → Fr k ∧ ¬ E k := fun k h => ⟨HFR.out k (by omega), fun h' => by have := (he k).1 h'; omega⟩
  have nY : ∀ {M : Nat → Prop} {A : World}, (∀ k, M k → W3.heap.size ≤ k ∧ k < A.heap.size) → ¬ M W.heap.size := fun h x => by have := h _ x; omega
  refine wpIn_range_at (gf := 137) (lb := #[.pointer (some ⟨W.heap.size + 1, 0, none⟩), .pointer (some ⟨W.heap.size + 2, 0, none⟩)]) rfl (enters_of Tryz.func137 (by kernel_rfl) rfl)
    (visits2E_seq S t0 hsz (fun k => Fr k ∧ ¬ E k) (W.heap.size + 1) (W.heap.size + 2) Bo p0 q0 W3 hp3 hq3 hk3 (fun h => h.2 ((he _).2 ⟨by omega, by omega⟩)))
    (fun _ _ _ _ hK h => Next2.mono hK h) (Below.refl _ _) hFE (fun _ => rfl)
    (fun M pre V => (W3.heap.size ≤ V.heap.size ∧ J (fun k => M k ∨ E k) (nod2 pre) V) ∧ (V.heap[W.heap.size]? = some (.cells #[.func (.yield l) #[] #[]] 148) ∧ ¬ M W.heap.size) ∧ firsts2 pre)
    (fun M pre x V => W3.heap.size ≤ V.heap.size ∧ ok (fun k => M k ∨ E k) (nod2 pre) x V)
    (fun c M pre V => c = .ret ∧ W3.heap.size ≤ V.heap.size ∧ Jx (fun k => M k ∨ E k) (nod2 pre) V)
    (fun x a' M V => ∃ A, a' = { tmps := #[.func (.yield l) #[] #[], .pointer (some ⟨Bt, 0, none⟩), .pointer (some ⟨Bk, 0, none⟩), .pointer (some ⟨W.heap.size, 0, none⟩), .pointer (some ⟨A, 0, none⟩), .agg #[.pointer p0, .pointer q0], .func (.func 124) #[] #[.pointer (some ⟨Bo, 0, none⟩)], .func (.func 137) #[] #[.pointer (some ⟨W.heap.size + 1, 0, none⟩), .pointer (some ⟨W.heap.size + 2, 0, none⟩)], .agg #[.pointer x.p, .pointer x.q, .int .i64 (x.i : Int), .int .i64 (x.d : Int)], undef, undef, undef, undef, undef, undef, undef, undef, undef, undef, undef, undef], defers := [] } ∧ V.heap[A]? = some (.cells #[.pointer x.p, .pointer x.q, .int .i64 (x.i : Int), .int .i64 (x.d : Int)] 153) ∧ ¬ M A)
    (fun s => Ab.and (Ab.plus (HJ.out (nod2 s)) E hEb hle3) (Ab.and (Ab.block _ _ _) (Ab.pure _ _))) (fun _ s => Ab.and (Ab.pure _ _) (Ab.plus (HX.out (nod2 s)) E hEb hle3)) (fun _ _ => Ab.ex fun _ => Ab.and (Ab.pure _ _) (Ab.block _ _ _))
    ⟨hst (HJ.out []) h0, ⟨hy3, fun h => h⟩, fun _ h => by cases h⟩ (fun s x => Ab.plus (HO.out (nod2 s) x) E hEb hle3) (hst (HO.out [] _) hx0) ?next ?assign ?body ?done ?stop
  case next =>
    rintro M pre y V ⟨⟨h1, h2⟩, _, h3⟩ hM hV hy
    exact Next2.mono (fun x hx => ⟨h1, hx⟩) (HNX.out _ _ _ V h2 (up hM hV) (Nat.le_trans hle3 hV) (nod2_mem h3 hy) y.i)
  case assign =>
    intro l' M pre x V K hi hM hok hf hK
    clear hp3 hq3 hk3 hy3
    simp [V2.enc]
    gi_wp2
    refine hK _ _ (Turns.alloc _ _ _) ⟨V.heap.size, rfl, World.alloc_heap_new V _, fun h => by have := (hM _ h).2; omega⟩
  case body =>
    rintro l' M pre x a' V ⟨⟨h1, h2⟩, ⟨h3, h4⟩, h5⟩ hM hle hok hf ⟨A, rfl, h6, h7⟩
    clear hp3 hq3 hk3 hy3
    have h60 : V.cell? ⟨A, 0, none⟩ = some (.pointer x.p) := cell_box h6 rfl rfl
    have h6q : V.cell? ⟨A, 1, none⟩ = some (.pointer x.q) := cell_box h6 rfl rfl
    have h61 : V.cell? ⟨A, 2, none⟩ = some (.int .i64 (x.i : Int)) := cell_box h6 rfl rfl
    have h62 : V.cell? ⟨A, 3, none⟩ = some (.int .i64 (x.d : Int)) := cell_box h6 rfl rfl
    have h30 : V.cell? ⟨W.heap.size, 0, none⟩ = some (.func (.yield l) #[] #[]) := cell_box h3 rfl rfl
    have H3 := Lib.hid h3
    clear h3 h6
    by_cases hi : x.i = 0
    · have hc : ((x.i : Int) == 0) = true := by rw [hi]; rfl
      obtain ⟨fn, tmps, assign, body, hy, hRd⟩ := HY.out (fun k => M k ∨ E k) (nod2 pre) x V h2 (up hM hle) (Nat.le_trans hle3 hle) (no2Ok_of hok hi) (hf hi).2
      simp only [V2.enc2] at hy
      gi_wp2
      refine (round_in hRd).mono ?_
      rintro e V2 (⟨rfl, hJ2, hT2⟩ | ⟨rfl, hJ2, hT2⟩)
      · gi_wp2
        exact ⟨hT2.mono (fun k _ h => ⟨⟨h.1, fun e => h.2 (.inr e)⟩, fun m => h.2 (.inl m)⟩), ⟨⟨Nat.le_trans h1 hT2.size, by rw [nod2_snoc0 _ _ hi]; exact hJ2⟩, ⟨hT2.heap H3.out (fun h => h.2 (.inr ((he _).2 ⟨Nat.le_refl _, by omega⟩))), h4⟩, firsts2_snoc h5 hok⟩⟩
      · gi_wp2
        exact ⟨hT2.mono (fun k _ h => ⟨⟨h.1, fun e => h.2 (.inr e)⟩, fun m => h.2 (.inl m)⟩), rfl, Nat.le_trans h1 hT2.size, by rw [nod2_snoc0 _ _ hi]; exact hJ2⟩
    · have hc : ((x.i : Int) == 0) = false := by simpa using hi
      gi_wp2
      refine ⟨(fun _ h => by cases h), ?_⟩
      gi_wp2
      exact ⟨Turns.refl _ _, ⟨⟨h1, by rw [nod2_snoc1 _ _ hi]; exact h2⟩, ⟨H3.out, h4⟩, firsts2_snoc h5 hok⟩⟩
  case done =>
    rintro D M xs V hD hMD hM hS ⟨⟨h1, h2⟩, _⟩ hK
    clear hp3 hq3 hk3 hy3
    gi_wp2
    refine ⟨by simp, .inl ⟨_, _, rfl, run_takeDeferred hK, ?_⟩⟩
    exact ⟨_, results_none rfl _ _ _, ⟨_, rfl⟩, .inl ⟨fun k => M k ∨ E k, nod2 xs, no2All_of hS, HJ.out _ _ _ V _ h2 (up hM h1) (Turns.putObj V D _ (.inl hMD)) (fun k h => ⟨.inl h, by rw [World.putObj_size]; exact (up hM h1 k h).2⟩), fun k h => by rw [World.putObj_size]; exact up hM h1 k h⟩⟩
  case stop =>
    rintro D M c pre V hD hMD hM ⟨rfl, h1, h2⟩ hK
    clear hp3 hq3 hk3 hy3
    gi_wp2
    refine ⟨by simp, .inl ⟨_, _, rfl, run_takeDeferred hK, ?_⟩⟩
    exact ⟨_, results_none rfl _ _ _, ⟨_, rfl⟩, .inr ⟨fun k => M k ∨ E k, nod2 pre, HX.out _ _ _ V _ h2 (up hM h1) (Turns.putObj V D _ (.inl hMD)) (fun k h => ⟨.inl h, by rw [World.putObj_size]; exact (up hM h1 k h).2⟩), fun k h => by rw [World.putObj_size]; exact up hM h1 k h⟩⟩
end Go.Proofs.YtmmhpibkjdlkgaaGreat
namespace Go.Proofs.YtmmhpibkjdlkgaaGreat
open Go Go.RowKit Go.Shelf

theorem nodes2P_seq {T : Type} (S : Shape T) (t0 : T) (hsz : (S.vk t0 0 1).length ≤ 1000000) (Fr : Nat → Prop) (Bt Bk Bo : Nat) (p0 q0 : Option Addr) (w : World) (hFr : ∀ k, w.heap.size ≤ k → Fr k) (c0 : w.cell? ⟨Bt, 0, none⟩ = some (.pointer p0)) (cq : w.cell? ⟨Bt, 1, none⟩ = some (.pointer q0)) (c1 : w.cell? ⟨Bk, 0, none⟩ = some (.func (.func 153) #[] #[.pointer (some ⟨Bo, 0, none⟩)])) :
    SeqAt Tryz.prog 151 #[.pointer (some ⟨Bt, 0, none⟩), .pointer (some ⟨Bk, 0, none⟩)] V2.enc2 (no2All S t0) (no2Ok S t0) (fun _ => True) ⟨t0, p0, q0, 0, 1⟩ (Next2N 153 Bo S) Fr w := fun l J Jx ok W hW hJ hJx hO hx0 hnx hY h0 => by
  have k0 := (World.cell?_of_block (a := ⟨Bt, 0, none⟩) (hW.block Bt (cell_lt c0))).trans c0
  have kq := (World.cell?_of_block (a := ⟨Bt, 1, none⟩) (hW.block Bt (cell_lt cq))).trans cq
  have k1 := (World.cell?_of_block (a := ⟨Bk, 0, none⟩) (hW.block Bk (cell_lt c1))).trans c1
  exact callsIn_wide.1 (nodes2P_walk S t0 hsz Fr Bt Bk Bo l p0 q0 J Jx ok W hJ hJx hO hx0 hnx (fun M pre x W1 a b c d e => hY M pre x W1 a b c d (fun _ => e)) h0 (fun k h => hFr k (Nat.le_trans hW.size h)) k0 kq k1)
theorem nodes2E_seq {T : Type} (S : Shape T) (t0 : T) (hsz : (S.vk t0 0 1).length ≤ 1000000) (Fr : Nat → Prop) (Bt Bk Bo : Nat) (p0 q0 : Option Addr) (w : World) (hFr : ∀ k, w.heap.size ≤ k → Fr k) (c0 : w.cell? ⟨Bt, 0, none⟩ = some (.pointer p0)) (cq : w.cell? ⟨Bt, 1, none⟩ = some (.pointer q0)) (c1 : w.cell? ⟨Bk, 0, none⟩ = some (.func (.func 124) #[] #[.pointer (some ⟨Bo, 0, none⟩)])) :
    SeqAt Tryz.prog 122 #[.pointer (some ⟨Bt, 0, none⟩), .pointer (some ⟨Bk, 0, none⟩)] V2.enc2 (no2All S t0) (no2Ok S t0) (fun _ => True) ⟨t0, p0, q0, 0, 1⟩ (Next2N 124 Bo S) Fr w := fun l J Jx ok W hW hJ hJx hO hx0 hnx hY h0 => by
  have k0 := (World.cell?_of_block (a := ⟨Bt, 0, none⟩) (hW.block Bt (cell_lt c0))).trans c0
  have kq := (World.cell?_of_block (a := ⟨Bt, 1, none⟩) (hW.block Bt (cell_lt cq))).trans cq
  have k1 := (World.cell?_of_block (a := ⟨Bk, 0, none⟩) (hW.block Bk (cell_lt c1))).trans c1
  exact callsIn_wide.1 (nodes2E_walk S t0 hsz Fr Bt Bk Bo l p0 q0 J Jx ok W hJ hJx hO hx0 hnx (fun M pre x W1 a b c d e => hY M pre x W1 a b c d (fun _ => e)) h0 (fun k h => hFr k (Nat.le_trans hW.size h)) k0 kq k1)
end Go.Proofs.YtmmhpibkjdlkgaaGreat

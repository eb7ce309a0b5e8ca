/- tree.visits' closure over expressions, through pairs and lists alone, walked. tree.nodes' closure over expressions, through pairs and lists alone, walked. A walk through the pairs and lists of an expression alone: its visits and nodes, plainly; where it goes on; the law for a range over it. -/
import Derived.Test.YtmmhpibkjdlkgaaGreatTxA
namespace Go.Proofs.YtmmhpibkjdlkgaaGreat
open Go Go.RowKit Go.Shelf

attribute [local go_sem] Oper.semAt_some

set_option maxRecDepth 100000 in
set_option maxHeartbeats 4000000 in
theorem visitsF_walk {T : Type} (S : Shape T) (t0 : T) (hsz : (S.vk t0 0 1).length ≤ 1000000) (Fr : Nat → Prop) (Bt Bk l : Nat) (p0 : Option Addr) (J Jx : (Nat → Prop) → List (Vi T) → World → Prop) (ok : (Nat → Prop) → List (Vi T) → Vi T → World → Prop) (W : World)
    (hJ : ∀ s, Ab W.heap.size fun M W' => J M s W') (hJx : ∀ s, Ab W.heap.size fun M W' => Jx M s W') (hO : ∀ s x, Ab W.heap.size fun M W' => ok M s x W') (hx0 : ok (fun _ => False) [] ⟨t0, p0, 0, 1⟩ W)
    (hnx : ∀ M pre y W1, J M pre W1 → (∀ k, M k → W.heap.size ≤ k ∧ k < W1.heap.size) → W.heap.size ≤ W1.heap.size → y ∈ pre → NextP 66 S W1 y fun x => ok M pre x W1)
    (hY : ∀ M pre x W1, J M pre W1 → (∀ k, M k → W.heap.size ≤ k ∧ k < W1.heap.size) → W.heap.size ≤ W1.heap.size → viOk S t0 pre x → (x.i = 0 → ok M pre x W1) → YieldAt Fence.wide 8 Tryz.prog l x.enc W1 fun e W' =>
      (e = .returned (.bool true) ∧ J M (pre ++ [x]) W' ∧ Turns (fun k => Fr k ∧ ¬ M k) W1 W') ∨ (e = .returned (.bool false) ∧ Jx M (pre ++ [x]) W' ∧ Turns (fun k => Fr k ∧ ¬ M k) W1 W'))
    (h0 : J (fun _ => False) [] W) (c0 : W.cell? ⟨Bt, 0, none⟩ = some (.pointer p0)) (c1 : W.cell? ⟨Bk, 0, none⟩ = some (.func (.func 66) #[] #[])) (hBk : ¬ Fr Bk) :
    CallsIn Fence.wide 9 Tryz.prog 100 #[.func (.yield l) #[] #[], .pointer (some ⟨Bt, 0, none⟩), .pointer (some ⟨Bk, 0, none⟩)] W fun e W' => (∃ v, e = .returned v) ∧
      ((∃ M xs, viAll S t0 xs ∧ J M xs W' ∧ ∀ k, M k → W.heap.size ≤ k ∧ k < W'.heap.size) ∨ (∃ M pre, Jx M pre W' ∧ ∀ k, M k → W.heap.size ≤ k ∧ k < W'.heap.size)) := by
  have HY := Lib.hid hY; have HJ := Lib.hid hJ; have HX := Lib.hid hJx; have HO := Lib.hid hO; have HNX := Lib.hid hnx; clear hY hJ hJx hO hnx
  have hBW : Bk < W.heap.size := cell_lt c1
  refine callsIn_of_wp Tryz.func100 rfl trivial ?_ rfl
  simp only [Tryz.ntmps100, List.size_toArray, List.length_cons, List.length_nil, Nat.reduceAdd, Nat.reduceSub, Array.replicate_succ, Array.replicate_zero, List.push_toArray, List.append_toArray, List.nil_append, List.cons_append]
  gi_wp2
  gi_loopg [4] (S.vk t0 0 1).length (fun gk v wr => ∃ M R pre, VStk S t0 87 W.heap.size M R pre v wr ok ∧ J M pre wr ∧ (∀ k, M k → W.heap.size ≤ k ∧ k < wr.heap.size) ∧ W.heap.size ≤ wr.heap.size ∧ wr.cell? ⟨Bk, 0, none⟩ = some (.func (.func 66) #[] #[]) ∧ gk = (vTodo S R).length)
  case atStart =>
    refine ⟨_, _, _, vi_startE (HO.out [] _ (fun _ => False) _ W _ hx0 (fun _ h => h.elim) (Turns.alloc _ _ _) (fun k hk => ⟨.inr (by omega), by simp; omega⟩)), HJ.out [] (fun _ => False) _ W _ h0 (fun _ h => h.elim) (Turns.alloc _ _ _) (fun k hk => ⟨.inr (by omega), by simp; omega⟩), fun k hk => ⟨by omega, by simp; omega⟩, by simp, ?_, by simp [vTodo]⟩
    exact (World.cell?_of_block (a := ⟨Bk, 0, none⟩) (Below.heap_alloc _ _ _ hBW)).trans c1
  case round =>
    obtain ⟨M, R, pre, hS, hj, hM, hbs, ck, rfl⟩ := hrel
    have HS' := Lib.hid hS; have HJ' := Lib.hid hj; have HM' := Lib.hid hM; have HB := Lib.hid hbs
    clear hS hj hM hbs
    cases R with
    | nil =>
      obtain ⟨av, cv, rfl⟩ := own_shapeT HS'.out.own
      gi_wp2
      go_end0
      exact ⟨⟨_, rfl⟩, .inl ⟨M, pre, HS'.out.ends, HJ'.out, HM'.out⟩⟩
    | cons x R =>
      obtain ⟨g, cap, rfl, hg1, hg2, hcp, hcm, r0, r1, r2, hown⟩ := v_top (v := u4) HS'.out.own
      obtain ⟨r, hr⟩ : ∃ y, R.length = y := ⟨_, rfl⟩
      rw [hr] at r0 r1 r2 hcp hown ⊢
      obtain ⟨hxi, hxk, _⟩ := HS'.out.each x (by simp)
      have hlen := HS'.out.len
      rw [List.length_cons, hr] at hlen
      have hri : r + 1 ≤ 1000000 ∧ x.i ≤ 1000000 := by omega
      have hxd : (x.d : Int) = (r : Int) + 1 := by have := HS'.out.dep.1; rw [this, hr]; rfl
      obtain ⟨xi, hxi'⟩ : ∃ y, x.i = y := ⟨_, rfl⟩
      obtain ⟨xp, hxp'⟩ : ∃ y, x.p = y := ⟨_, rfl⟩
      rw [hxi'] at r1 hri; rw [hxp'] at r0; rw [hxd] at r2
      have hbB : Bk < wr.heap.size := cell_lt ck
      have HMU := Lib.hid (show ∀ k, (M k ∨ k = wr.heap.size) → W.heap.size ≤ k ∧ k < wr.heap.size + 1 from fun k hk => by
        rcases hk with h | h
        · have := HM'.out k h; omega
        · have := HB.out; omega)
      obtain ⟨W1, hW1⟩ : ∃ W1, wr.alloc (.cells #[.pointer xp, .int .i64 (xi : Int), .int .i64 ((r : Int) + 1)] 87) = W1 := ⟨_, rfl⟩
      have hT1 : Turns (fun _ => False) wr W1 := by rw [← hW1]; exact Turns.alloc _ _ _
      have hs1 : W1.heap.size = wr.heap.size + 1 := by rw [← hW1]; simp
      obtain ⟨fn, tmps, assign, body, hy, hRd⟩ := HY.out (fun k => M k ∨ k = wr.heap.size) pre x W1
        (HJ.out pre M _ wr _ HJ'.out HM'.out (hT1.mono fun _ _ h => h.elim) (fun k hk => ⟨hk.elim .inl (fun h => .inr (by omega)), by rw [hs1]; exact (HMU.out k hk).2⟩)) (fun k hk => ⟨(HMU.out k hk).1, by rw [hs1]; exact (HMU.out k hk).2⟩) (by have := HB.out; omega) HS'.out.at
        (fun hi => HO.out pre x M _ wr _ (HS'.out.top x R rfl hi) HM'.out (hT1.mono fun _ _ h => h.elim) (fun k hk => ⟨hk.elim .inl (fun h => .inr (by omega)), by rw [hs1]; exact (HMU.out k hk).2⟩))
      simp only [Vi.enc, hxi', hxp', hxd] at hy
      have HRI := Lib.hid hri; have HXI := Lib.hid hxi'; have HXP := Lib.hid hxp'; have HXD := Lib.hid hxd; have HXK := Lib.hid hxk; have HOWN := Lib.hid hown; have HCP := Lib.hid hcp; have HCM := Lib.hid hcm; have HG1 := Lib.hid hg1; have HG2 := Lib.hid hg2; have HT1 := Lib.hid hT1; have HS1 := Lib.hid hs1; have HR := Lib.hid hr; have HW1 := Lib.hid hW1; have HBB := Lib.hid hbB
      obtain ⟨hr1, hx1⟩ := hri
      clear hxi' hxp' hxd hxk hown hcp hcm hg1 hg2 hT1 hs1 hr hlen hxi hbB
      gi_upto_region 4 with fail
      try rw [hW1]
      have hb1 : W1.heap[wr.heap.size]? = some (.cells #[.pointer xp, .int .i64 (xi : Int), .int .i64 ((r : Int) + 1)] 87) := by rw [← hW1]; exact World.alloc_heap_new wr _
      have d0 : W1.cell? ⟨wr.heap.size, 0, none⟩ = some (.pointer xp) := cell_box hb1 rfl rfl
      have d1 : W1.cell? ⟨wr.heap.size, 1, none⟩ = some (.int .i64 (xi : Int)) := cell_box hb1 rfl rfl
      have d2 : W1.cell? ⟨wr.heap.size, 2, none⟩ = some (.int .i64 ((r : Int) + 1)) := cell_box hb1 rfl rfl
      have HB1 := Lib.hid hb1
      clear hb1 hW1
      gi_wp2
      refine hRd.mono ?_
      clear d0 d1 d2 r0 r1 r2 hy
      rintro e W3 (⟨rfl, hJ3, hT3⟩ | ⟨rfl, hJx3, hT3⟩)
      · have HT3 := Lib.hid hT3
        have hs3 : wr.heap.size + 1 ≤ W3.heap.size := by rw [← HS1.out]; exact hT3.size
        have hblk : ∀ k, k < wr.heap.size → (M k ∨ ¬ Fr k) → W3.heap[k]? = wr.heap[k]? := fun k hk h =>
          (HT3.out.block k (by rw [HS1.out]; omega) (fun h' => h.elim (fun m => h'.2 (.inl m)) (fun f => f h'.1))).trans (HT1.out.block k hk (fun h => h))
        have hbx : W3.heap[wr.heap.size]? = W1.heap[wr.heap.size]? := HT3.out.block _ (by rw [HS1.out]; omega) (fun h' => h'.2 (.inr rfl))
        have e0 : W3.cell? ⟨wr.heap.size, 0, none⟩ = some (.pointer xp) := cell_box HB1.out hbx rfl
        have e1 : W3.cell? ⟨wr.heap.size, 1, none⟩ = some (.int .i64 (xi : Int)) := cell_box HB1.out hbx rfl
        have e2 : W3.cell? ⟨wr.heap.size, 2, none⟩ = some (.int .i64 ((r : Int) + 1)) := cell_box HB1.out hbx rfl
        have ck3 : W3.cell? ⟨Bk, 0, none⟩ = some (.func (.func 66) #[] #[]) := (World.cell?_of_block (a := ⟨Bk, 0, none⟩) (hblk Bk HBB.out (.inr hBk))).trans ck
        have hMg : M g := HS'.out.mine g rfl
        have HMG := Lib.hid hMg
        have own3 : W3.ownsRow W.heap.size 87 3 (.slice (some ⟨g, 0, none⟩) (r + 1) cap) (r + 1) (vCells (x :: R).reverse) := own_same (by have := HS'.out.own; rw [List.length_cons, HR.out] at this; exact this) (fun y hy => hblk y (by injection hy with hy; subst hy; exact HG2.out) (.inl (by injection hy with hy; subst hy; exact hMg)))
        have pop3 : W3.ownsRow W.heap.size 87 3 (.slice (some ⟨g, 0, none⟩) r cap) r (vCells R.reverse) := own_same HOWN.out (fun y hy => hblk y (by injection hy with hy; subst hy; exact HG2.out) (.inl (by injection hy with hy; subst hy; exact hMg)))
        have hkid := HNX.out (fun k => M k ∨ k = wr.heap.size) (pre ++ [x]) x W3 hJ3 (fun k hk => ⟨(HMU.out k hk).1, Nat.lt_of_lt_of_le (HMU.out k hk).2 hs3⟩) (Nat.le_trans HB.out (by omega)) (by simp) HXK.out
        rw [HXP.out, HXI.out] at hkid
        have HKID := Lib.hid hkid; have HOWN3 := Lib.hid own3; have HPOP3 := Lib.hid pop3; have HBLK := Lib.hid hblk; have HJ3 := Lib.hid hJ3; have HS3 := Lib.hid hs3
        clear hkid own3 pop3 hblk hJ3 hT3 hbx hMg hs3
        gi_wp2
        refine ⟨trivial, callsIn_wide.2 (HKID.out.mono ?_)⟩
        rintro e W' ⟨rfl, (⟨hk, p', rfl, hok⟩ | ⟨hk, q, rfl⟩)⟩
        · have HOK := Lib.hid hok
          clear hok
          obtain ⟨g', cap', hgc, hg1, hg2, hcp, hcm, r0, r1, r2, hown⟩ := v_top (R := R) (x := x) (w := W') (base := W.heap.size) (e := 87) (v := .slice (some ⟨g, 0, none⟩) (r + 1) cap) (by rw [HR.out]; exact HOWN3.out)
          injection hgc with hgc hgr hgc2
          clear hgr
          injection hgc with hgc
          injection hgc with hgc
          subst hgc hgc2
          rw [HR.out] at r0 r1 r2 hcp
          rw [HXI.out] at r1
          clear hown hcp hcm hg1 hg2
          have hfz := HOWN3.out.frozenAt (r * 3 + 1)
          gi_upto_region 8 with fail
          have hbump := v_bump (R := R) (x := x) (w := W') (base := W.heap.size) (e := 87) (g := g) (cap := cap) (by rw [HR.out]; exact HOWN3.out)
          rw [HR.out, HXI.out] at hbump
          have HT4 := Lib.hid (show Turns (fun k => M k ∨ k = wr.heap.size) W' (W'.setCell ⟨g, r * 3 + 1, none⟩ (.int .i64 ((xi : Int) + 1))) from Turns.setCell _ _ _ (.inl HMG.out))
          have hne : (W'.setCell ⟨g, r * 3 + 1, none⟩ (.int .i64 ((xi : Int) + 1))).heap[wr.heap.size]? = W'.heap[wr.heap.size]? := Below.heap_setCell _ _ _ _ (by have := HG2.out; dsimp only; omega)
          have f2 : (W'.setCell ⟨g, r * 3 + 1, none⟩ (.int .i64 ((xi : Int) + 1))).cell? ⟨wr.heap.size, 2, none⟩ = some (.int .i64 ((r : Int) + 1)) := (World.cell?_of_block (a := ⟨wr.heap.size, 2, none⟩) hne).trans e2
          clear hne e0 e1 e2 r0 r1 r2 hfz
          generalize W'.setCell ⟨g, r * 3 + 1, none⟩ (.int .i64 ((xi : Int) + 1)) = W4 at hbump HT4 f2 ⊢
          have HBU := Lib.hid hbump
          clear hbump
          obtain ⟨i0, hi, hz0, hz1, hz2⟩ := info_parts info_viE
          have HBB4 := Lib.hid (show W.heap.size ≤ (W4.alloc (.cells #[.pointer p', .int .i64 0, .int .i64 ((r : Int) + 1 + 1)] 87)).heap.size from by have := HT4.out.size; have := HS3.out; have := HB.out; simp; omega)
          gi_wp2_with (gi_at_builtin; refine wpListIn_append_lies _ rfl (.tmp 44) (.tmp 50) 130 rfl W.heap.size 87 i0 (.agg #[.pointer none, .int .i64 0, .int .i64 0]) 3 24 Tryz.underlying130 hi hz0 hz1 hz2 rfl (by decide) (.slice (some ⟨g, 0, none⟩) (r + 1) cap) (r + 1) (vCells (x.on :: R).reverse) rfl (HBU.out.alloc _) ⟨W4.heap.size, 0, none⟩ 1 1 [.pointer p', .int .i64 0, .int .i64 ((r : Int) + 1 + 1)] rfl rfl (World.news_of_block (World.alloc_heap_new W4 _)) (vi_cells _ _ _) (by decide) (vi_b1 HRI.out.1) (vi_b2 HRI.out.1) HBB4.out ?_; intro g1 cap1 w1 hown1 hgr1 hly1)
          have hx2 := HXI.out
          subst hx2
          have hT5 : Turns (fun k => M k ∨ k = wr.heap.size) W' w1 := push_turns HT4.out hgr1 (fun k h _ => by cases h; exact .inl HMG.out)
          have hs5 := hT5.size
          have kidc : (⟨(S.kids x.t)[x.i], p', 0, x.d + 1⟩ : Vi T).cells = [.pointer p', .int .i64 0, .int .i64 ((r : Int) + 1 + 1)] := by
            show [Value.pointer p', .int .i64 ((0 : Nat) : Int), .int .i64 ((x.d + 1 : Nat) : Int)] = _
            rw [Int.natCast_add, HXD.out]; rfl
          have F := HS'.out.push (p := p') (v5 := .slice (some ⟨g1, 0, none⟩) (r + 1 + 1) cap1) (W5 := w1) (M5 := fun k => ((M k ∨ k = wr.heap.size) ∨ W'.heap.size ≤ k) ∧ k < w1.heap.size) hk (by rw [HR.out, List.reverse_cons, vCells_snoc, kidc]; exact hown1)
            (fun y h => by
              injection h with h; subst h
              refine ⟨?_, (hown1.lt _ rfl).2⟩
              rcases lies_at hly1 with h | h
              · exact .inl (.inl (by rw [h]; exact HMG.out))
              · exact .inr (Nat.le_trans HT4.out.size h))
            (HO.out _ _ _ _ W' w1 HOK.out (fun k h => ⟨(HMU.out k h).1, Nat.lt_of_lt_of_le (HMU.out k h).2 HS3.out⟩) hT5 (fun k h => h))
          have FF := Lib.hid F
          have HS5 := Lib.hid hs5; have HT5 := Lib.hid hT5
          clear F
          gi_roundg (vTodo S ((⟨(S.kids x.t)[x.i], p', 0, x.d + 1⟩ : Vi T) :: x.on :: R)).length
          case measure => exact FF.out.2
          case rel =>
            refine ⟨_, _, _, FF.out.1, HJ.out _ _ _ W' w1 HJ3.out (fun k h => ⟨(HMU.out k h).1, Nat.lt_of_lt_of_le (HMU.out k h).2 HS3.out⟩) HT5.out (fun k h => h), fun k h => ⟨?_, h.2⟩, ?_, ?_, rfl⟩
            · rcases h.1 with h | h
              · exact (HMU.out k h).1
              · exact Nat.le_trans (Nat.le_trans HB.out (Nat.le_of_succ_le HS3.out)) h
            · exact Nat.le_trans (Nat.le_trans HB.out (Nat.le_of_succ_le HS3.out)) HS5.out
            · exact (World.cell?_of_block (a := ⟨Bk, 0, none⟩) (HT5.out.block Bk (Nat.lt_of_lt_of_le HBB.out (Nat.le_of_succ_le HS3.out)) (fun h => by have := (HMU.out Bk h).1; omega))).trans ck3
        · have HK := Lib.hid hk
          clear hk
          have hpop := vi_popE g (r + 1) cap r (by omega) HCP.out
          gi_wp2
          gi_roundg (vTodo S R).length
          case measure => exact (HS'.out.pop (by rw [HXI.out]; exact HK.out) (by rw [HR.out]; exact HPOP3.out) (M5 := M) (fun y hy => by injection hy with hy; subst hy; exact HMG.out)).2
          case rel => exact ⟨fun k => M k ∨ k = wr.heap.size, R, pre ++ [x], (HS'.out.pop (by rw [HXI.out]; exact HK.out) (by rw [HR.out]; exact HPOP3.out) (fun y hy => by injection hy with hy; subst hy; exact .inl HMG.out)).1, HJ3.out, fun k hk => ⟨(HMU.out k hk).1, Nat.lt_of_lt_of_le (HMU.out k hk).2 HS3.out⟩, Nat.le_trans HB.out (Nat.le_of_succ_le HS3.out), ck3, rfl⟩
      · gi_wp2
        refine bodyPost_ret (results_none rfl _ _ _) rfl ?_
        exact ⟨⟨_, rfl⟩, .inr ⟨_, _, hJx3, fun k hk => ⟨(HMU.out k hk).1, Nat.lt_of_lt_of_le (HMU.out k hk).2 (Nat.le_trans (Nat.le_of_eq HS1.out.symm) hT3.size)⟩⟩⟩
theorem visitsF_seq {T : Type} (S : Shape T) (t0 : T) (hsz : (S.vk t0 0 1).length ≤ 1000000) (Fr : Nat → Prop) (Bt Bk : Nat) (p0 : Option Addr) (w : World) (c0 : w.cell? ⟨Bt, 0, none⟩ = some (.pointer p0)) (c1 : w.cell? ⟨Bk, 0, none⟩ = some (.func (.func 66) #[] #[])) (hBk : ¬ Fr Bk) :
    SeqAt Tryz.prog 100 #[.pointer (some ⟨Bt, 0, none⟩), .pointer (some ⟨Bk, 0, none⟩)] Vi.enc (viAll S t0) (viOk S t0) (fun x => x.i = 0) ⟨t0, p0, 0, 1⟩ (NextP 66 S) Fr w := fun l J Jx ok W hW hJ hJx hO hx0 hnx hY h0 => by
  have k0 := (World.cell?_of_block (a := ⟨Bt, 0, none⟩) (hW.block Bt (cell_lt c0))).trans c0
  have k1 := (World.cell?_of_block (a := ⟨Bk, 0, none⟩) (hW.block Bk (cell_lt c1))).trans c1
  exact callsIn_wide.1 (visitsF_walk S t0 hsz Fr Bt Bk l p0 J Jx ok W hJ hJx hO hx0 hnx hY h0 k0 k1 hBk)
end Go.Proofs.YtmmhpibkjdlkgaaGreat
namespace Go.Proofs.YtmmhpibkjdlkgaaGreat
open Go Go.RowKit Go.Shelf

attribute [local go_sem] Oper.semAt_some

set_option maxRecDepth 100000 in
set_option maxHeartbeats 4000000 in
theorem nodesF_walk {T : Type} (S : Shape T) (t0 : T) (hsz : (S.vk t0 0 1).length ≤ 1000000) (Fr : Nat → Prop) (Bt Bk l : Nat) (p0 : Option Addr) (J Jx : (Nat → Prop) → List (Vi T) → World → Prop) (ok : (Nat → Prop) → List (Vi T) → Vi T → World → Prop) (W : World)
    (hJ : ∀ s, Ab W.heap.size fun M W' => J M s W') (hJx : ∀ s, Ab W.heap.size fun M W' => Jx M s W') (hO : ∀ s x, Ab W.heap.size fun M W' => ok M s x W') (hx0 : ok (fun _ => False) [] ⟨t0, p0, 0, 1⟩ W)
    (hnx : ∀ M pre y W1, J M pre W1 → (∀ k, M k → W.heap.size ≤ k ∧ k < W1.heap.size) → W.heap.size ≤ W1.heap.size → y ∈ pre → NextN 66 S W1 y fun x => ok M pre x W1)
    (hY : ∀ M pre x W1, J M pre W1 → (∀ k, M k → W.heap.size ≤ k ∧ k < W1.heap.size) → W.heap.size ≤ W1.heap.size → noOk S t0 pre x → ok M pre x W1 → YieldAt Fence.wide 8 Tryz.prog l x.enc2 W1 fun e W' =>
      (e = .returned (.bool true) ∧ J M (pre ++ [x]) W' ∧ Turns (fun k => Fr k ∧ ¬ M k) W1 W') ∨ (e = .returned (.bool false) ∧ Jx M (pre ++ [x]) W' ∧ Turns (fun k => Fr k ∧ ¬ M k) W1 W'))
    (h0 : J (fun _ => False) [] W) (hFr : ∀ k, W.heap.size ≤ k → Fr k) (c0 : W.cell? ⟨Bt, 0, none⟩ = some (.pointer p0)) (c1 : W.cell? ⟨Bk, 0, none⟩ = some (.func (.func 66) #[] #[])) :
    CallsIn Fence.wide 9 Tryz.prog 86 #[.func (.yield l) #[] #[], .pointer (some ⟨Bt, 0, none⟩), .pointer (some ⟨Bk, 0, none⟩)] W fun e W' => (∃ v, e = .returned v) ∧
      ((∃ M xs, noAll S t0 xs ∧ J M xs W' ∧ ∀ k, M k → W.heap.size ≤ k ∧ k < W'.heap.size) ∨ (∃ M pre, Jx M pre W' ∧ ∀ k, M k → W.heap.size ≤ k ∧ k < W'.heap.size)) := by
  have HY := Lib.hid hY; have HJ := Lib.hid hJ; have HX := Lib.hid hJx; have HO := Lib.hid hO; have HNX := Lib.hid hnx; have HFR := Lib.hid hFr; clear hY hJ hJx hO hnx hFr
  have HV := Lib.hid (visitsE_any (.pointer p0) (.func (.func 66) #[] #[]) ⟨_, rfl⟩ ⟨_, rfl⟩)
  have hl0 : Bt < W.heap.size := cell_lt c0
  have hl1 : Bk < W.heap.size := cell_lt c1
  have c0' : (W.alloc (.cells #[.func (.yield l) #[] #[]] 115)).cell? ⟨Bt, 0, none⟩ = some (.pointer p0) := (World.cell?_of_block (a := ⟨Bt, 0, none⟩) (Below.heap_alloc _ _ _ hl0)).trans c0
  have c1' : (W.alloc (.cells #[.func (.yield l) #[] #[]] 115)).cell? ⟨Bk, 0, none⟩ = some (.func (.func 66) #[] #[]) := (World.cell?_of_block (a := ⟨Bk, 0, none⟩) (Below.heap_alloc _ _ _ hl1)).trans c1
  refine callsIn_of_wp_marks Tryz.func86 rfl trivial ?_ rfl
  simp only [Tryz.ntmps86, List.size_toArray, List.length_cons, List.length_nil, Nat.reduceAdd, Nat.reduceSub, Array.replicate_succ, Array.replicate_zero, List.push_toArray, List.append_toArray, List.nil_append, List.cons_append]
  gi_wp2_with (refine ⟨trivial, ?_⟩; gi_at_call 67; refine (callsIn_wide.2 (HV.out _)).mono ?_; rintro e w' ⟨rfl, rfl⟩)
  clear c0 c1 c0' c1' hl0 hl1
  obtain ⟨W3, hW3⟩ : ∃ W3, ((W.alloc (.cells #[.func (.yield l) #[] #[]] 115)).alloc (.cells #[.pointer p0] 68)).alloc (.cells #[.func (.func 66) #[] #[]] 114) = W3 := ⟨_, rfl⟩
  try rw [hW3]
  have hs3 : W3.heap.size = W.heap.size + 3 := by rw [← hW3]; simp
  have hT3 : Turns (fun _ => False) W W3 := by rw [← hW3]; exact ((Turns.alloc _ _ _).trans (Turns.alloc _ _ _)).trans (Turns.alloc _ _ _)
  have hy3 : W3.heap[W.heap.size]? = some (.cells #[.func (.yield l) #[] #[]] 115) := by rw [← hW3]; exact (Below.heap_alloc _ _ _ (by simp; omega)).trans (box1 _ _ _ _ _)
  have hp3 : W3.cell? ⟨W.heap.size + 1, 0, none⟩ = some (.pointer p0) := by rw [← hW3]; exact cell_box (box2 _ _ _ _ _) (Below.heap_alloc _ _ _ (by simp)) rfl
  have hk3 : W3.cell? ⟨W.heap.size + 2, 0, none⟩ = some (.func (.func 66) #[] #[]) := by
    have := World.alloc_heap_new ((W.alloc (.cells #[.func (.yield l) #[] #[]] 115)).alloc (.cells #[.pointer p0] 68)) (.cells #[.func (.func 66) #[] #[]] 114)
    rw [hW3] at this
    simp at this
    exact cell_box this rfl rfl
  obtain ⟨E, hE⟩ : ∃ E : Nat → Prop, E = fun k => W.heap.size ≤ k ∧ k < W.heap.size + 3 := ⟨_, rfl⟩
  have he : ∀ k, E k ↔ (W.heap.size ≤ k ∧ k < W.heap.size + 3) := fun k => by rw [hE]
  have hEb : ∀ k, E k → W.heap.size ≤ k ∧ k < W3.heap.size := fun k h => by have := (he k).1 h; omega
  have hle3 : W.heap.size ≤ W3.heap.size := by omega
  have up : ∀ {M : Nat → Prop} {A : World}, (∀ k, M k → W3.heap.size ≤ k ∧ k < A.heap.size) → W3.heap.size ≤ A.heap.size → ∀ k, (M k ∨ E k) → W.heap.size ≤ k ∧ k < A.heap.size := fun h hA k hk => by
    rcases hk with x | x
    · have := h k x; omega
    · have := (he k).1 x; omega
  have hst : ∀ {p : (Nat → Prop) → World → Prop}, Ab W.heap.size p → p (fun _ => False) W → W3.heap.size ≤ W3.heap.size ∧ p (fun k => False ∨ E k) W3 := fun hp h => ⟨Nat.le_refl _, hp _ _ W W3 h (fun _ h => h.elim) hT3 (fun k hk => by
    rcases hk with h | h
    · exact h.elim
    · have := (he k).1 h; exact ⟨.inr (by omega), by omega⟩)⟩
  have hFE : ∀ k, W3.heap.size ≤ k → Fr k ∧ ¬ E k := fun k h => ⟨HFR.out k (by omega), fun h' => by have := (he k).1 h'; omega⟩
  have nY : ∀ {M : Nat → Prop} {A : World}, (∀ k, M k → W3.heap.size ≤ k ∧ k < A.heap.size) → ¬ M W.heap.size := fun h x => by have := h _ x; omega
  refine wpIn_range_at (gf := 100) (lb := #[.pointer (some ⟨W.heap.size + 1, 0, none⟩), .pointer (some ⟨W.heap.size + 2, 0, none⟩)]) rfl (enters_of Tryz.func100 (by kernel_rfl) rfl)
    (visitsF_seq S t0 hsz (fun k => Fr k ∧ ¬ E k) (W.heap.size + 1) (W.heap.size + 2) p0 W3 hp3 hk3 (fun h => h.2 ((he _).2 ⟨by omega, by omega⟩)))
    (fun _ _ _ _ hK h => NextP.mono hK h) (Below.refl _ _) hFE (fun _ => rfl)
    (fun M pre V => (W3.heap.size ≤ V.heap.size ∧ J (fun k => M k ∨ E k) (nod pre) V) ∧ (V.heap[W.heap.size]? = some (.cells #[.func (.yield l) #[] #[]] 115) ∧ ¬ M W.heap.size) ∧ firsts pre)
    (fun M pre x V => W3.heap.size ≤ V.heap.size ∧ ok (fun k => M k ∨ E k) (nod pre) x V)
    (fun c M pre V => c = .ret ∧ W3.heap.size ≤ V.heap.size ∧ Jx (fun k => M k ∨ E k) (nod pre) V)
    (fun x a' M V => ∃ A, a' = { tmps := #[.func (.yield l) #[] #[], .pointer (some ⟨Bt, 0, none⟩), .pointer (some ⟨Bk, 0, none⟩), .pointer (some ⟨W.heap.size, 0, none⟩), .pointer (some ⟨A, 0, none⟩), .pointer p0, .func (.func 66) #[] #[], .func (.func 100) #[] #[.pointer (some ⟨W.heap.size + 1, 0, none⟩), .pointer (some ⟨W.heap.size + 2, 0, none⟩)], .agg #[.pointer x.p, .int .i64 (x.i : Int), .int .i64 (x.d : Int)], undef, undef, undef, undef, undef, undef, undef, undef, undef, undef, undef, undef], defers := [] } ∧ V.heap[A]? = some (.cells #[.pointer x.p, .int .i64 (x.i : Int), .int .i64 (x.d : Int)] 87) ∧ ¬ M A)
    (fun s => Ab.and (Ab.plus (HJ.out (nod s)) E hEb hle3) (Ab.and (Ab.block _ _ _) (Ab.pure _ _))) (fun _ s => Ab.and (Ab.pure _ _) (Ab.plus (HX.out (nod s)) E hEb hle3)) (fun _ _ => Ab.ex fun _ => Ab.and (Ab.pure _ _) (Ab.block _ _ _))
    ⟨hst (HJ.out []) h0, ⟨hy3, fun h => h⟩, fun _ h => by cases h⟩ (fun s x => Ab.plus (HO.out (nod s) x) E hEb hle3) (hst (HO.out [] _) hx0) ?next ?assign ?body ?done ?stop
  case next =>
    rintro M pre y V ⟨⟨h1, h2⟩, _, h3⟩ hM hV hy
    exact NextP.mono (fun x hx => ⟨h1, hx⟩) (HNX.out _ _ _ V h2 (up hM hV) (Nat.le_trans hle3 hV) (nod_mem h3 hy) y.i)
  case assign =>
    intro l' M pre x V K hi hM hok hf hK
    clear hp3 hk3 hy3
    simp [Vi.enc]
    gi_wp2
    refine hK _ _ (Turns.alloc _ _ _) ⟨V.heap.size, rfl, World.alloc_heap_new V _, fun h => by have := (hM _ h).2; omega⟩
  case body =>
    rintro l' M pre x a' V ⟨⟨h1, h2⟩, ⟨h3, h4⟩, h5⟩ hM hle hok hf ⟨A, rfl, h6, h7⟩
    clear hp3 hk3 hy3
    have h60 : V.cell? ⟨A, 0, none⟩ = some (.pointer x.p) := cell_box h6 rfl rfl
    have h61 : V.cell? ⟨A, 1, none⟩ = some (.int .i64 (x.i : Int)) := cell_box h6 rfl rfl
    have h62 : V.cell? ⟨A, 2, none⟩ = some (.int .i64 (x.d : Int)) := cell_box h6 rfl rfl
    have h30 : V.cell? ⟨W.heap.size, 0, none⟩ = some (.func (.yield l) #[] #[]) := cell_box h3 rfl rfl
    have H3 := Lib.hid h3
    clear h3 h6
    by_cases hi : x.i = 0
    · have hc : ((x.i : Int) == 0) = true := by rw [hi]; rfl
      obtain ⟨fn, tmps, assign, body, hy, hRd⟩ := HY.out (fun k => M k ∨ E k) (nod pre) x V h2 (up hM hle) (Nat.le_trans hle3 hle) (noOk_of hok hi) (hf hi).2
      simp only [Vi.enc2] at hy
      gi_wp2
      refine (round_in hRd).mono ?_
      rintro e V2 (⟨rfl, hJ2, hT2⟩ | ⟨rfl, hJ2, hT2⟩)
      · gi_wp2
        exact ⟨hT2.mono (fun k _ h => ⟨⟨h.1, fun e => h.2 (.inr e)⟩, fun m => h.2 (.inl m)⟩), ⟨⟨Nat.le_trans h1 hT2.size, by rw [nod_snoc0 _ _ hi]; exact hJ2⟩, ⟨hT2.heap H3.out (fun h => h.2 (.inr ((he _).2 ⟨Nat.le_refl _, by omega⟩))), h4⟩, firsts_snoc h5 hok⟩⟩
      · gi_wp2
        exact ⟨hT2.mono (fun k _ h => ⟨⟨h.1, fun e => h.2 (.inr e)⟩, fun m => h.2 (.inl m)⟩), rfl, Nat.le_trans h1 hT2.size, by rw [nod_snoc0 _ _ hi]; exact hJ2⟩
    · have hc : ((x.i : Int) == 0) = false := by simpa using hi
      gi_wp2
      refine ⟨(fun _ h => by cases h), ?_⟩
      gi_wp2
      exact ⟨Turns.refl _ _, ⟨⟨h1, by rw [nod_snoc1 _ _ hi]; exact h2⟩, ⟨H3.out, h4⟩, firsts_snoc h5 hok⟩⟩
  case done =>
    rintro D M xs V hD hMD hM hS ⟨⟨h1, h2⟩, _⟩ hK
    clear hp3 hk3 hy3
    gi_wp2
    refine ⟨by simp, .inl ⟨_, _, rfl, run_takeDeferred hK, ?_⟩⟩
    exact ⟨_, results_none rfl _ _ _, ⟨_, rfl⟩, .inl ⟨fun k => M k ∨ E k, nod xs, noAll_of hS, HJ.out _ _ _ V _ h2 (up hM h1) (Turns.putObj V D _ (.inl hMD)) (fun k h => ⟨.inl h, by rw [World.putObj_size]; exact (up hM h1 k h).2⟩), fun k h => by rw [World.putObj_size]; exact up hM h1 k h⟩⟩
  case stop =>
    rintro D M c pre V hD hMD hM ⟨rfl, h1, h2⟩ hK
    clear hp3 hk3 hy3
    gi_wp2
    refine ⟨by simp, .inl ⟨_, _, rfl, run_takeDeferred hK, ?_⟩⟩
    exact ⟨_, results_none rfl _ _ _, ⟨_, rfl⟩, .inr ⟨fun k => M k ∨ E k, nod pre, HX.out _ _ _ V _ h2 (up hM h1) (Turns.putObj V D _ (.inl hMD)) (fun k h => ⟨.inl h, by rw [World.putObj_size]; exact (up hM h1 k h).2⟩), fun k h => by rw [World.putObj_size]; exact up hM h1 k h⟩⟩
theorem nodesF_seq {T : Type} (S : Shape T) (t0 : T) (hsz : (S.vk t0 0 1).length ≤ 1000000) (Fr : Nat → Prop) (Bt Bk : Nat) (p0 : Option Addr) (w : World) (hFr : ∀ k, w.heap.size ≤ k → Fr k) (c0 : w.cell? ⟨Bt, 0, none⟩ = some (.pointer p0)) (c1 : w.cell? ⟨Bk, 0, none⟩ = some (.func (.func 66) #[] #[])) :
    SeqAt Tryz.prog 86 #[.pointer (some ⟨Bt, 0, none⟩), .pointer (some ⟨Bk, 0, none⟩)] Vi.enc2 (noAll S t0) (noOk S t0) (fun _ => True) ⟨t0, p0, 0, 1⟩ (NextN 66 S) Fr w := fun l J Jx ok W hW hJ hJx hO hx0 hnx hY h0 => by
  have k0 := (World.cell?_of_block (a := ⟨Bt, 0, none⟩) (hW.block Bt (cell_lt c0))).trans c0
  have k1 := (World.cell?_of_block (a := ⟨Bk, 0, none⟩) (hW.block Bk (cell_lt c1))).trans c1
  exact callsIn_wide.1 (nodesF_walk S t0 hsz Fr Bt Bk l p0 J Jx ok W hJ hJx hO hx0 hnx (fun M pre x W1 a b c d e => hY M pre x W1 a b c d (fun _ => e)) h0 (fun k h => hFr k (Nat.le_trans hW.size h)) k0 k1)
end Go.Proofs.YtmmhpibkjdlkgaaGreat
namespace Go.Proofs.YtmmhpibkjdlkgaaGreat
open Go Go.RowKit Go.Shelf
open Ex (E)

namespace Ex
def fkids (e : E) : List E := if e.kind = 6 ∨ e.kind = 8 then e.kids else []
mutual
def fvis : E → Nat → List (E × Nat × Nat) | .mk k f t nm ar n s op A B ps l, d => if k = 6 ∨ k = 8 then fvisK (.mk k f t nm ar n s op A B ps l) l 0 d else [(.mk k f t nm ar n s op A B ps l, 0, d)]
def fvisK : E → List E → Nat → Nat → List (E × Nat × Nat)
  | t, [], i, d => [(t, i, d)]
  | t, x :: r, i, d => (t, i, d) :: (fvis x (d + 1) ++ fvisK t r (i + 1) d)
end
mutual
/-- The nodes that decide whether it is a value form, with their depths. -/
def fpre : E → Nat → List (E × Nat × Nat) | .mk k f t nm ar n s op A B ps l, d => (.mk k f t nm ar n s op A B ps l, 0, d) :: (if k = 6 ∨ k = 8 then fpres l (d + 1) else [])
def fpres : List E → Nat → List (E × Nat × Nat) | [], _ => [] | x :: r, d => fpre x d ++ fpres r d
end
theorem fkids_yes {e : E} (h : e.kind = 6 ∨ e.kind = 8) : fkids e = e.kids := if_pos h
theorem fkids_no {e : E} (h : ¬ (e.kind = 6 ∨ e.kind = 8)) : fkids e = [] := if_neg h
theorem fvis_kids (p : E) (d : Nat) : fvis p d = fvisK p (fkids p) 0 d := by
  by_cases h : p.kind = 6 ∨ p.kind = 8
  · rw [fkids_yes h]
    cases p with
    | mk k f t nm ar n s op A B ps l => exact (by unfold fvis; exact if_pos h)
  · rw [fkids_no h]
    cases p with
    | mk k f t nm ar n s op A B ps l => exact (by unfold fvis; rw [fvisK]; exact if_neg h)
def fshape : Shape E where
  kids := fkids
  vk t i d := fvisK t ((fkids t).drop i) i d
  more t i d h := by
    rw [List.drop_eq_getElem_cons h, fvisK, List.drop_zero, fvis_kids]
  last t i d h := by rw [List.drop_eq_nil_of_le (by omega), fvisK]
mutual
theorem fvis_len : ∀ (p : E) (d : Nat), (fvis p d).length + 1 ≤ 2 * size p
  | .mk k f t nm ar n s op A B ps l, d => by
    have h := fvisK_len (.mk k f t nm ar n s op A B ps l) l 0 d
    rw [fvis, size]
    split
    · omega
    · simp only [List.length_cons, List.length_nil]; omega
theorem fvisK_len : ∀ (t : E) (l : List E) (i d : Nat), (fvisK t l i d).length ≤ 2 * sizes l + 1
  | t, [], i, d => by simp [fvisK, sizes]
  | t, x :: r, i, d => by
    have h1 := fvis_len x (d + 1)
    have h2 := fvisK_len t r (i + 1) d
    simp only [fvisK, sizes, List.length_cons, List.length_append]
    omega
end
mutual
theorem fvis_nodes : ∀ (p : E) (d : Nat), ((fvis p d).filter fun k => k.2.1 == 0) = fpre p d
  | .mk k f t nm ar n s op A B ps l, d => by
    have h := fvisK_nodes (.mk k f t nm ar n s op A B ps l) l 0 d
    rw [fvis, fpre]
    by_cases hk : k = 6 ∨ k = 8
    · rw [if_pos hk, if_pos hk, h]; rfl
    · rw [if_neg hk, if_neg hk]; rfl
theorem fvisK_nodes : ∀ (t : E) (l : List E) (i d : Nat), ((fvisK t l i d).filter fun k => k.2.1 == 0) = (if i = 0 then [(t, 0, d)] else []) ++ fpres l (d + 1)
  | t, [], i, d => by
    by_cases h : i = 0
    · simp [fvisK, fpres, h]
    · simp [fvisK, fpres, h]
  | t, x :: r, i, d => by
    have h1 := fvis_nodes x (d + 1)
    have h2 := fvisK_nodes t r (i + 1) d
    rw [if_neg (by omega), List.nil_append] at h2
    rw [fvisK, List.filter_cons, List.filter_append, h1, h2, fpres]
    by_cases h : i = 0
    · simp [h]
    · simp [h]
end
theorem nKeys_fshape (p : E) : nKeys fshape p = fpre p 1 := by
  show ((fvisK p ((fkids p).drop 0) 0 1).filter fun k => k.2.1 == 0) = _
  rw [List.drop_zero, ← fvis_kids, fvis_nodes]
theorem fvk_len (p : E) : (fshape.vk p 0 1).length ≤ 2 * size p := by
  have := fvis_len p 1
  rw [fvis_kids] at this
  show (fvisK p ((fkids p).drop 0) 0 1).length ≤ _
  rw [List.drop_zero]; omega
end Ex
theorem next_form {G : Nat → Prop} {W : World} {y : Vi E} (h : ElAt G W y) : NextN 66 Ex.fshape W y fun x => ElAt G W x := fun i hi => by
  obtain ⟨b, o, hp, hG, hn⟩ := h
  obtain ⟨ho, a, cap, hc, _, _, hk⟩ := hn.kidsAt
  dsimp only
  rw [hp]
  by_cases hk6 : y.t.kind = 6 ∨ y.t.kind = 8
  · have hcall := formKid_any b o y.t.kids.length cap i a y.t.kind W ho.c0 hk6 hc (fun h0 => by
      obtain ⟨b', o', e, _⟩ := hk.first h0
      exact ⟨b', o', e⟩)
    refine hcall.mono ?_
    have hf : Ex.fkids y.t = y.t.kids := if_pos hk6
    rintro e W' ⟨(⟨h1, b', o', rfl, rfl⟩ | ⟨h1, rfl⟩), rfl⟩
    · refine ⟨rfl, .inl ⟨by show i < (Ex.fkids y.t).length; rw [hf]; exact h1, some ⟨b', o' + i * 16, none⟩, rfl, b', o' + i * 16, rfl, ?_, ?_⟩⟩
      · obtain ⟨b2, o2, e, hG2, _⟩ := hk.first (by omega)
        injection e with e
        injection e with e1
        rw [e1]; exact hG2
      · have := hk.nodes _ _ _ i h1
        simp only [Ex.fshape, hf]
        exact this
    · exact ⟨rfl, .inr ⟨by show ¬ i < (Ex.fkids y.t).length; rw [hf]; exact h1, none, rfl⟩⟩
  · have hcall := formKid_no b o i y.t.kind W ho.c0 (by simp; omega) (by simp; omega)
    refine hcall.mono ?_
    rintro e W' ⟨rfl, rfl⟩
    exact ⟨rfl, .inr ⟨by show ¬ i < (Ex.fkids y.t).length; rw [show Ex.fkids y.t = [] from if_neg hk6]; simp, none, rfl⟩⟩
theorem wpIn_range_form {g : Operand} {ps : Array Tmp} {assign body : Code} {Q : Exit → Act → World → Prop} {a : Act} {w : World} {Bt Bk n b o : Nat} {p : E}
    (hg : a.eval g = .func (.func 86) #[] #[.pointer (some ⟨Bt, 0, none⟩), .pointer (some ⟨Bk, 0, none⟩)]) (hn : n ≤ w.heap.size) (hpl : ElAt (LT n) w ⟨p, some ⟨b, o, none⟩, 0, 1⟩) (hsz : Ex.size p ≤ 500000)
    (c0 : w.cell? ⟨Bt, 0, none⟩ = some (.pointer (some ⟨b, o, none⟩))) (c1 : w.cell? ⟨Bk, 0, none⟩ = some (.func (.func 66) #[] #[])) (hps : ps.size = 2)
    (I : (Nat → Prop) → List (Vi E) → World → Prop) (Ix : Code → (Nat → Prop) → List (Vi E) → World → Prop) (Ax : Vi E → Act → (Nat → Prop) → World → Prop)
    (hI : ∀ s, Ab w.heap.size fun M W => I M s W) (hIx : ∀ c s, Ab w.heap.size fun M W => Ix c M s W) (hAx : ∀ x a', Ab w.heap.size fun M W => Ax x a' M W) (h0 : I (fun _ => False) [] w)
    (hassign : ∀ (l : Nat) (M : Nat → Prop) (pre : List (Vi E)) (x : Vi E) (W : World) (K : Act → World → Prop), I M pre W → (∀ k, M k → w.heap.size ≤ k ∧ k < W.heap.size) → noOk Ex.fshape p pre x → ElAt (LT n) W x →
      (∀ a' W', Turns (fun _ => False) W W' → Ax x a' M W' → K a' W') →
      assign.wpIn (Fence.wide.inRound l) 8 Tryz.prog (Exit.then K (fun _ _ _ => False)) { tmps := (ps.zip x.enc2).foldl (fun t (p, v) => t.setIfInBounds p v) a.tmps, defers := [] } W)
    (hbody : ∀ (l : Nat) (M : Nat → Prop) (pre : List (Vi E)) (x : Vi E) (a' : Act) (W : World), I M pre W → (∀ k, M k → w.heap.size ≤ k ∧ k < W.heap.size) → w.heap.size ≤ W.heap.size → noOk Ex.fshape p pre x → ElAt (LT n) W x → Ax x a' M W →
      body.wpIn (Fence.wide.inRound l) 8 Tryz.prog (atPost (fun k => n ≤ k) M I Ix (pre ++ [x]) W) a' W)
    (hdone : ∀ (D : Nat) (M : Nat → Prop) (xs : List (Vi E)) (W : World), w.heap.size ≤ D → M D → (∀ k, M k → w.heap.size ≤ k ∧ k < W.heap.size) → noAll Ex.fshape p xs → I M xs W → W.heap[D]? = some (.deferred (some [])) → Q .normal { a with defers := { target := .collected D, args := #[] } :: a.defers } W)
    (hstop : ∀ (D : Nat) (M : Nat → Prop) (c : Code) (pre : List (Vi E)) (W : World), w.heap.size ≤ D → M D → (∀ k, M k → w.heap.size ≤ k ∧ k < W.heap.size) → Ix c M pre W → W.heap[D]? = some (.deferred (some [])) → c.wpIn Fence.wide 9 Tryz.prog Q { a with defers := { target := .collected D, args := #[] } :: a.defers } W) :
    (Code.rangeFunc g ps assign body).wpIn Fence.wide 9 Tryz.prog Q a w := by
  refine wpIn_range_at hg (enters_of Tryz.func86 (by kernel_rfl) rfl)
    (nodesF_seq Ex.fshape p (Nat.le_trans (Ex.fvk_len p) (by omega)) (fun k => n ≤ k) Bt Bk (some ⟨b, o, none⟩) w (fun k h => Nat.le_trans hn h) c0 c1)
    (fun _ _ _ _ hK h i => NextP.mono hK (h i)) (Below.refl _ _) (fun k h => Nat.le_trans hn h) (fun _ => hps.symm)
    (fun M pre V => I M pre V ∧ (n ≤ V.heap.size ∧ ∀ y ∈ pre, ElAt (LT n) V y)) (fun _ _ x V => n ≤ V.heap.size ∧ ElAt (LT n) V x) Ix Ax
    (fun s => Ab.and (hI s) (ab_eplaces hn s)) hIx hAx ⟨h0, hn, fun _ h => by cases h⟩ (fun _ x => ab_eplace hn x) ⟨hn, hpl⟩ ?next ?assign ?body ?done hstop
  case next =>
    rintro M pre y V ⟨_, h1, h2⟩ _ _ hy i
    exact NextP.mono (fun x hx => ⟨h1, hx⟩) (next_form (h2 y hy) i)
  case assign =>
    rintro l M pre x V K ⟨h1, _⟩ hM hok hf hK
    exact hassign l M pre x V K h1 hM hok (hf trivial).2 hK
  case body =>
    rintro l M pre x a' V ⟨h1, h2, h3⟩ hM hle hok hf hax
    refine wpIn_mono (hbody l M pre x a' V h1 hM hle hok (hf trivial).2 hax) ?_
    intro e a3 V2 hp
    cases e with
    | normal =>
      obtain ⟨hT, hi⟩ := hp
      have hb : Below n V V2 := hT.below (Below.refl _ _) (fun k h => h.1) h2
      refine ⟨hT, hi, Nat.le_trans h2 hT.size, fun y hy => ?_⟩
      rcases List.mem_append.1 hy with hy | hy
      · exact (h3 y hy).below hb
      · obtain rfl := List.mem_singleton.1 hy
        exact (hf trivial).2.below hb
    | ret => exact hp
    | exit id => exact hp
    | goto t => exact hp
    | panic ch => exact hp
    | outgrown => exact hp
  case done =>
    rintro D M xs V hD hMD hM hS ⟨hi, _⟩ hK
    exact hdone D M xs V hD hMD hM hS hi hK
end Go.Proofs.YtmmhpibkjdlkgaaGreat

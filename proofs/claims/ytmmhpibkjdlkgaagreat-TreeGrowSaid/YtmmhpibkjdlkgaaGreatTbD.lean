/- tree.binds' iterator where the names of a pattern are bound. -/
import Derived.Test.YtmmhpibkjdlkgaaGreatTbA
import Derived.Test.YtmmhpibkjdlkgaaGreatTeG
import Derived.Test.YtmmhpibkjdlkgaaGreatTdP
namespace Go.Proofs.YtmmhpibkjdlkgaaGreat
open Go Go.RowKit Go.Shelf
open Ex (E)

attribute [local go_sem] Oper.semAt_some

theorem keyN_snoc (pre : List (Vi Tr.P)) (x : Vi Tr.P) : Tr.keyNames (pk (pre ++ [x])) = Tr.keyNames (pk pre) ++ Tr.nameOf x.t := by rw [pk_snoc, Tr.keyNames_append]; simp [Tr.keyNames]
theorem keyN_all {p : Tr.P} {xs : List (Vi Tr.P)} (h : noAll Tr.shape p xs) : Tr.keyNames (pk xs) = Tr.keyNames (Tr.pre p 1) := by
  rw [noAll, Tr.nKeys_shape] at h
  rw [pk, h]
theorem keyN_ok {p : Tr.P} {pre : List (Vi Tr.P)} {x : Vi Tr.P} (hok : noOk Tr.shape p pre x) (h2 : x.t.kind = 2) : ∃ rest, Tr.keyNames (pk pre) ++ x.t.nm :: rest = Tr.keyNames (Tr.pre p 1) := by
  obtain ⟨⟨rest, hr⟩, _⟩ := hok
  rw [Tr.nKeys_shape] at hr
  refine ⟨Tr.keyNames rest, ?_⟩
  rw [← hr, Tr.keyNames_append, pk]
  show _ = _ ++ Tr.keyNames ([x.key] ++ rest)
  rw [Tr.keyNames_append]
  simp [Tr.keyNames, Tr.nameOf, Vi.key, h2]
set_option maxRecDepth 100000 in
set_option maxHeartbeats 4000000 in
theorem binds_pat (Fr : Nat → Prop) (Be Bk b o n j : Nat) (e : E) (w : World) (c0 : w.cell? ⟨Be, 0, none⟩ = some (.pointer (some ⟨b, o, none⟩))) (c1 : w.cell? ⟨Bk, 0, none⟩ = some (.int .i64 ((j : Int) + 1))) (hn : ENode (LT n) w e b o) (hb : b < n) (hnw : n ≤ w.heap.size)
    (h14 : e.kind = 14) (hj : j < e.pats.length) (hps : Tr.size e.pats[j] ≤ 10000) (hFn : ∀ k, Fr k → n ≤ k) :
    SeqAt Tryz.prog 101 #[.pointer (some ⟨Be, 0, none⟩), .pointer (some ⟨Bk, 0, none⟩)] (fun s : List UInt8 => #[.string ⟨s.toArray⟩]) (fun xs => xs = Tr.keyNames (Tr.pre e.pats[j] 1)) (fun pre x => ∃ rest, pre ++ x :: rest = Tr.keyNames (Tr.pre e.pats[j] 1)) (fun _ => False) [] (fun _ _ _ => True) Fr w := fun l J Jx ok W hW hJ hJx hO hx0 hnx hY h0 => by
  have k0 := (World.cell?_of_block (a := ⟨Be, 0, none⟩) (hW.block Be (cell_lt c0))).trans c0
  have k1 := (World.cell?_of_block (a := ⟨Bk, 0, none⟩) (hW.block Bk (cell_lt c1))).trans c1
  have hbw : b < w.heap.size := Nat.lt_of_lt_of_le hb hnw
  have hown := hn.kidsAt.1
  have e0 := (World.cell?_of_block (a := ⟨b, o, none⟩) (hW.block b hbw)).trans hown.c0
  obtain ⟨pa, pc, p14, hpl, hpc, hpsx⟩ := hown.pats
  have e14 := (World.cell?_of_block (a := ⟨b, o + 14, none⟩) (hW.block b hbw)).trans p14
  have hBe : Be < W.heap.size := Nat.lt_of_lt_of_le (cell_lt c0) hW.size
  have hBk : Bk < W.heap.size := Nat.lt_of_lt_of_le (cell_lt c1) hW.size
  have hbW : b < W.heap.size := Nat.lt_of_lt_of_le hbw hW.size
  have hnW : n ≤ W.heap.size := Nat.le_trans hnw hW.size
  obtain ⟨pb, po, rfl, hpb, hN⟩ := hpsx.first (Nat.zero_lt_of_lt hj)
  have hnode := hN j hj
  obtain ⟨p, hp⟩ : ∃ p, e.pats[j] = p := ⟨_, rfl⟩
  obtain ⟨m, hm⟩ : ∃ m, e.pats.length = m := ⟨_, rfl⟩
  rw [h14] at e0
  rw [hp] at hnode hps hY ⊢
  rw [hm] at e14 hj
  have hm2 : (m : Int) ≤ 9223372036854775807 := by have h2 := hpc; have h1 := hpl; unfold maxLen at h2; omega
  obtain ⟨W1, hW1⟩ : ∃ W1, W.alloc (.cells #[.func (.yield l) #[] #[]] 112) = W1 := ⟨_, rfl⟩
  have hs1 : W1.heap.size = W.heap.size + 1 := by rw [← hW1]; simp
  have hT : Turns (fun _ => False) W W1 := by rw [← hW1]; exact Turns.alloc _ _ _
  have q0 : W1.cell? ⟨Be, 0, none⟩ = some (.pointer (some ⟨b, o, none⟩)) := (World.cell?_of_block (a := ⟨Be, 0, none⟩) (hT.block Be hBe (fun h => h))).trans k0
  have q1 : W1.cell? ⟨Bk, 0, none⟩ = some (.int .i64 ((j : Int) + 1)) := (World.cell?_of_block (a := ⟨Bk, 0, none⟩) (hT.block Bk hBk (fun h => h))).trans k1
  have q2 : W1.cell? ⟨b, o, none⟩ = some (.int .i64 14) := (World.cell?_of_block (a := ⟨b, o, none⟩) (hT.block b hbW (fun h => h))).trans e0
  have q3 : W1.cell? ⟨b, o + 14, none⟩ = some (.slice (some ⟨pb, po, none⟩) m pc) := (World.cell?_of_block (a := ⟨b, o + 14, none⟩) (hT.block b hbW (fun h => h))).trans e14
  have q4 : W1.heap[W.heap.size]? = some (.cells #[.func (.yield l) #[] #[]] 112) := by rw [← hW1]; exact World.alloc_heap_new W _
  have hbn1 : Below n w W1 := (hW.mono hnw).trans ((hT.below (Below.refl _ _) (fun _ h => h.elim) (Nat.le_refl _)).mono hnW)
  have HN := Lib.hid (PNode.mono (fun y z hy => hbn1.cell (p := ⟨y, z, none⟩) hy) (fun _ h => h) _ _ _ hpb hnode)
  have HY := Lib.hid hY; have HJ := Lib.hid hJ; have HX := Lib.hid hJx; have H0 := Lib.hid h0; have HW1 := Lib.hid hW1; have HS1 := Lib.hid hs1; have HT := Lib.hid hT; have HNW := Lib.hid hnW; have HFN := Lib.hid hFn; have HPB := Lib.hid hpb; have HPS := Lib.hid hps; have HQ4 := Lib.hid q4
  have HV := Lib.hid (fun p w => nodesP_any (.pointer p) (.func (.func 80) #[] #[]) ⟨_, rfl⟩ ⟨_, rfl⟩ w)
  clear hJ hJx hO hnx hx0 h0 hY c0 c1 hn hW k0 k1 e0 e14 p14 hown hpsx hN hnode hp hm hT hW1 hs1 hBe hBk hbW hbw hb hnw hnW hFn hpb hps h14 hpl hpc hbn1 q4
  refine callsIn_wide (n := 9) |>.1 ?_
  refine callsIn_of_wp_marks Tryz.func101 rfl trivial ?_ rfl
  simp only [Tryz.ntmps101, List.size_toArray, List.length_cons, List.length_nil, Nat.reduceAdd, Nat.reduceSub, Array.replicate_succ, Array.replicate_zero, List.push_toArray, List.append_toArray, List.nil_append, List.cons_append]
  gi_upto_region 1 with fail
  rw [HW1.out]
  have hm : (Tryz.prog).follows .mixedOrders = true := by kernel_rfl
  have d1 : decide ((1 : Int) ≤ (j : Int) + 1) = true := decide_eq_true (by omega)
  have d2 : decide ((j : Int) + 1 ≤ (m : Int)) = true := decide_eq_true (by omega)
  have hwj : IntKind.i64.wrap (j : Int) = (j : Int) := by
    simp [IntKind.wrap, IntKind.bits, IntKind.signed]
    omega
  have hjm : (j : Int) < (m : Int) := by omega
  have hj0 : (0 : Int) ≤ (j : Int) := by omega
  gi_wp2
  gi_quiet (fail)
  gi_wp2
  refine wpIn_one ?aA1 ?aW1 (fun R hR => ?aF1) ?aR1
  case aF1 =>
    gi_region_with_o (refine ⟨trivial, ?_⟩; gi_at_call 79; refine (callsIn_wide.2 (HV.out _ _)).mono ?_; rintro e w' ⟨rfl, rfl⟩)
    all_goals exact hR
  gi_wp2
  obtain ⟨W3, hW3⟩ : ∃ W3, [Obj.cells #[.pointer (some ⟨pb, po + j * 7, none⟩)] 73, .cells #[.func (.func 80) #[] #[]] 135].foldl World.alloc (W1.drewN (nq + 1)) = W3 := ⟨_, rfl⟩
  rw [show ((W1.drewN (nq + 1)).alloc (.cells #[.pointer (some ⟨pb, po + j * 7, none⟩)] 73)).alloc (.cells #[.func (.func 80) #[] #[]] 135) = W3 from hW3]
  have hs3 : W3.heap.size = W1.heap.size + 2 := by rw [← hW3]; exact allocs_size _ _
  have hb3 : Below W1.heap.size W1 W3 := by
    rw [← hW3]
    exact (⟨rfl, rfl, rfl, Nat.le_refl _, fun _ _ => rfl⟩ : Below W1.heap.size W1 (W1.drewN (nq + 1))).trans (allocs_below _ _ (Nat.le_refl _))
  have hx0 : W3.heap[W1.heap.size]? = some (.cells #[.pointer (some ⟨pb, po + j * 7, none⟩)] 73) := by rw [← hW3]; exact allocs_get _ (W1.drewN (nq + 1)) 0 _ rfl
  have hx1 : W3.heap[W1.heap.size + 1]? = some (.cells #[.func (.func 80) #[] #[]] 135) := by rw [← hW3]; exact allocs_get _ (W1.drewN (nq + 1)) 1 _ rfl
  have hs1 := HS1.out
  have hsz : W3.heap.size = W.heap.size + 3 := by omega
  have hy3 : W3.heap[W.heap.size]? = some (.cells #[.func (.yield l) #[] #[]] 112) := (hb3.block _ (by omega)).trans HQ4.out
  have hT3 : Turns (fun _ => False) W W3 := HT.out.trans (turns_below hb3)
  have hnode3 := PNode.mono (G' := LT n) (fun y z hy => hb3.cell (p := ⟨y, z, none⟩) (Nat.lt_of_lt_of_le hy (by have := HNW.out; omega))) (fun _ h => h) _ _ _ HPB.out HN.out
  obtain ⟨E, hE⟩ : ∃ E : Nat → Prop, E = fun k => W.heap.size ≤ k ∧ k < W.heap.size + 3 := ⟨_, rfl⟩
  have he : ∀ k, E k ↔ (W.heap.size ≤ k ∧ k < W.heap.size + 3) := fun k => by rw [hE]
  have hEb : ∀ k, E k → W.heap.size ≤ k ∧ k < W3.heap.size := fun k h => by have := (he k).1 h; omega
  have hle3 : W.heap.size ≤ W3.heap.size := by omega
  have up : ∀ {M : Nat → Prop} {A : World}, (∀ k, M k → W3.heap.size ≤ k ∧ k < A.heap.size) → W3.heap.size ≤ A.heap.size → ∀ k, (M k ∨ E k) → W.heap.size ≤ k ∧ k < A.heap.size := fun h hA k hk => by
    rcases hk with x | x
    · have := h k x; omega
    · have := (he k).1 x; omega
  have hst : W3.heap.size ≤ W3.heap.size ∧ J (fun k => False ∨ E k) [] W3 := ⟨Nat.le_refl _, HJ.out [] _ _ W W3 H0.out (fun _ h => h.elim) hT3 (fun k hk => by
    rcases hk with h | h
    · exact h.elim
    · have := (he k).1 h; exact ⟨.inr (by omega), by omega⟩)⟩
  have HE := Lib.hid he; have HS3 := Lib.hid hs3; have HSZ := Lib.hid hsz
  have HN3 := Lib.hid hnode3; have HY3 := Lib.hid hy3; have HX0 := Lib.hid hx0; have HX1 := Lib.hid hx1; have HST := Lib.hid hst
  clear he hs3 hsz hs1 hW3 hnode3 hy3 hx0 hx1 hst hb3 hT3 q0 q1 q2 q3 d1 d2 hwj hjm hj0 hm hE
  refine wpIn_range_pat (Bt := W1.heap.size) (Bk := W1.heap.size + 1) (n := n) (b := pb) (o := po + j * 7) (p := p) rfl (by have := HNW.out; have := HSZ.out; omega)
    ⟨pb, po + j * 7, rfl, HPB.out, HN3.out⟩ (by have := HPS.out; omega) (cell_box HX0.out rfl rfl) (cell_box HX1.out rfl rfl) rfl
    (fun M pre V => (W3.heap.size ≤ V.heap.size ∧ J (fun k => M k ∨ E k) (Tr.keyNames (pk pre)) V) ∧ (V.heap[W.heap.size]? = some (.cells #[.func (.yield l) #[] #[]] 112) ∧ ¬ M W.heap.size))
    (fun c M pre V => c = .ret ∧ W3.heap.size ≤ V.heap.size ∧ Jx (fun k => M k ∨ E k) (Tr.keyNames (pk pre)) V)
    (fun x a' _ _ => a' = { tmps := #[.func (.yield l) #[] #[], .pointer (some ⟨Be, 0, none⟩), .pointer (some ⟨Bk, 0, none⟩), .pointer (some ⟨W.heap.size, 0, none⟩), .pointer x.p, .bool false, .pointer (some ⟨b, o, none⟩), .pointer (some ⟨b, o, none⟩), .pointer (some ⟨b, o, none⟩), .int .i64 14, .bool false, .bool false, undef, undef, .bool false, undef, undef, undef, undef, undef, undef, undef, undef, undef, undef, undef, undef, undef, undef, .bool false, .pointer (some ⟨b, o, none⟩), .pointer (some ⟨b, o, none⟩), .pointer (some ⟨b, o, none⟩), .int .i64 14, .bool false, .bool false, undef, undef, .bool false, .pointer (some ⟨b, o, none⟩), .pointer (some ⟨b, o, none⟩), .pointer (some ⟨b, o, none⟩), .int .i64 14, .bool false, .bool false, .pointer (some ⟨b, o, none⟩), .pointer (some ⟨b, o, none⟩), .pointer (some ⟨b, o, none⟩), .int .i64 14, .bool false, .bool false, .bool false, undef, undef, .bool false, undef, undef, undef, undef, undef, undef, .bool true, .pointer (some ⟨b, o, none⟩), .pointer (some ⟨b, o, none⟩), .pointer (some ⟨b, o, none⟩), .int .i64 14, .bool true, .bool true, .int .i64 ((j : Int) + 1), .bool true, .bool true, .bool true, .int .i64 ((j : Int) + 1), .pointer (some ⟨b, o, none⟩), .pointer (some ⟨b, o, none⟩), .pointer (some ⟨b, o + 14, none⟩), .slice (some ⟨pb, po, none⟩) m pc, .int .i64 (m : Int), .bool true, .bool true, .pointer (some ⟨b, o, none⟩), .pointer (some ⟨b, o, none⟩), .pointer (some ⟨b, o + 14, none⟩), .slice (some ⟨pb, po, none⟩) m pc, .int .i64 ((j : Int) + 1), .int .i64 (j : Int), .pointer (some ⟨pb, po + j * 7, none⟩), .func (.func 110) #[] #[.pointer (some ⟨W1.heap.size, 0, none⟩), .pointer (some ⟨W1.heap.size + 1, 0, none⟩)], .pointer x.p, .int .i64 (x.d : Int), undef, undef, undef, undef, undef, undef, undef, undef, undef, undef, undef, undef, undef, undef], defers := [] })
    (fun s => Ab.and (Ab.plus (HJ.out _) E hEb hle3) (Ab.block _ _ _)) (fun _ s => Ab.and (Ab.pure _ _) (Ab.plus (HX.out _) E hEb hle3)) (fun _ _ => Ab.pure _ _)
    ⟨HST.out, ⟨HY3.out, fun h => h⟩⟩ ?assign ?body ?done ?stop
  case assign =>
    intro l' M pre x V K hi hM hok hpl hK
    clear hi hpl
    gi_wp2
    exact hK _ _ (Turns.refl _ _) (by simp [Vi.enc2])
  case body =>
    rintro l' M pre x a' V ⟨⟨h1, h2⟩, h3, h4⟩ hM hle hok ⟨xb, xo, hxp, hG, hn⟩ rfl
    obtain ⟨xa, xc, hat, hcs⟩ := hn.pat
    have g3 : V.cell? ⟨W.heap.size, 0, none⟩ = some (.func (.yield l) #[] #[]) := cell_box h3 rfl rfl
    have g0 := hcs.c0
    have gn := hcs.c3
    have H3 := Lib.hid h3
    have hm : (Tryz.prog).follows .mixedOrders = true := by kernel_rfl
    rw [hxp]
    have hsn := keyN_snoc pre x
    by_cases hk : x.t.kind = 2
    · rw [hk] at g0
      have hEW : E W.heap.size := (HE.out _).2 ⟨Nat.le_refl _, by omega⟩
      have hJd : J (fun k => M k ∨ E k) (Tr.keyNames (pk pre)) V.drew := HJ.out _ _ _ V V.drew h2 (up hM h1) (Turns.drew _ _) (fun k h => ⟨.inl h, (up hM h1 k h).2⟩)
      obtain ⟨fn, tmps, assign, body, hy, hRd⟩ := HY.out (fun k => M k ∨ E k) (Tr.keyNames (pk pre)) x.t.nm V.drew hJd (up hM h1) (by show W.heap.size ≤ V.heap.size; omega) (keyN_ok hok hk) (fun h => h.elim)
      have hnm : Tr.nameOf x.t = [x.t.nm] := by unfold Tr.nameOf; rw [if_pos hk]
      rw [hnm] at hsn
      have HRD := Lib.hid hRd; have HSN := Lib.hid hsn; have HM := Lib.hid hM
      clear h2 h3 hcs hn hat hJd hRd hsn hM hok hnm
      gi_wp2
      gi_region_with_o (refine (round_in HRD.out).mono ?_; rintro _ V2 h2; obtain ⟨bv, rfl, hP⟩ := one_way h2; clear h2)
      all_goals
        rcases hP with ⟨rfl, hj, hT⟩ | ⟨rfl, hj, hT⟩
        · have HJ2 := Lib.hid hj; have HT := Lib.hid hT
          clear hj hT
          gi_wp2
          have hT2 : Turns (fun k => n ≤ k ∧ ¬ M k) V V2 := (Turns.drew _ _).trans (HT.out.mono fun k _ h => ⟨HFN.out k h.1, fun m => h.2 (.inl m)⟩)
          exact ⟨hT2, ⟨Nat.le_trans h1 hT2.size, by rw [HSN.out]; exact HJ2.out⟩, HT.out.heap (show V.drew.heap[W.heap.size]? = _ from H3.out) (fun h => h.2 (.inr hEW)), h4⟩
        · have HJ2 := Lib.hid hj; have HT := Lib.hid hT
          clear hj hT
          gi_wp2
          have hT2 : Turns (fun k => n ≤ k ∧ ¬ M k) V V2 := (Turns.drew _ _).trans (HT.out.mono fun k _ h => ⟨HFN.out k h.1, fun m => h.2 (.inl m)⟩)
          exact ⟨hT2, rfl, Nat.le_trans h1 hT2.size, by rw [HSN.out]; exact HJ2.out⟩
    · have gk : (x.t.kind == 2) = false := neI hk
      have hnm : Tr.nameOf x.t = [] := by unfold Tr.nameOf; rw [if_neg hk]
      rw [hnm, List.append_nil] at hsn
      have HSN := Lib.hid hsn; have HM := Lib.hid hM; have H2 := Lib.hid h2
      clear h2 h3 hcs hn hat hsn hM hok hnm
      gi_wp2
      refine wpIn_one ?aA2 ?aW2 (fun R hR => ?aF2) ?aR2
      case aF2 =>
        gi_region_with_o (refine ⟨fun _ h => (by cases h), ?_⟩)
        all_goals exact hR
      gi_wp2
      refine ⟨Turns.drew _ _, ⟨h1, ?_⟩, H3.out, h4⟩
      rw [HSN.out]
      exact HJ.out _ _ _ V V.drew H2.out (up HM.out h1) (Turns.drew _ _) (fun k h => ⟨.inl h, (up HM.out h1 k h).2⟩)
  case done =>
    rintro D M xs V hD hMD hM hS ⟨⟨h1, h2⟩, _⟩ hK
    rw [keyN_all hS] at h2
    gi_wp2
    refine ⟨by simp, .inl ⟨_, _, rfl, run_takeDeferred hK, ?_⟩⟩
    exact ⟨_, results_none rfl _ _ _, ⟨_, rfl⟩, .inl ⟨fun k => M k ∨ E k, _, rfl, HJ.out _ _ _ V _ h2 (up hM h1) (Turns.putObj V D _ (.inl hMD)) (fun k h => ⟨.inl h, by rw [World.putObj_size]; exact (up hM h1 k h).2⟩), fun k h => by rw [World.putObj_size]; exact up hM h1 k h⟩⟩
  case stop =>
    rintro D M c pre V hD hMD hM ⟨rfl, h1, h2⟩ hK
    gi_wp2
    refine ⟨by simp, .inl ⟨_, _, rfl, run_takeDeferred hK, ?_⟩⟩
    exact ⟨_, results_none rfl _ _ _, ⟨_, rfl⟩, .inr ⟨fun k => M k ∨ E k, _, HX.out _ _ _ V _ h2 (up hM h1) (Turns.putObj V D _ (.inl hMD)) (fun k h => ⟨.inl h, by rw [World.putObj_size]; exact (up hM h1 k h).2⟩), fun k h => by rw [World.putObj_size]; exact up hM h1 k h⟩⟩
end Go.Proofs.YtmmhpibkjdlkgaaGreat

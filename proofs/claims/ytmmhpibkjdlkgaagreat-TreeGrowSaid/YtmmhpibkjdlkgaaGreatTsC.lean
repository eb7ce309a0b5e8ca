/- tree.same over two patterns: all nodes of two trees, by what is known of 'alike'. tree.alikePat: two nodes of patterns, whatever their kids are. tree.samePat, walked. -/
import Derived.Test.YtmmhpibkjdlkgaaGreatTsP
import Derived.Test.YtmmhpibkjdlkgaaGreatTeG
import Derived.Test.YtmmhpibkjdlkgaaGreatTnR
import Derived.Test.YtmmhpibkjdlkgaaGreatPure
import Derived.Deep.QuietTactic
namespace Go.Proofs.YtmmhpibkjdlkgaaGreat
open Go Go.RowKit Go.Shelf
open Tr (P)
open Ex (E)

attribute [local go_sem] Oper.semAt_some

theorem Pl2At.mono {n m : Nat} {w W : World} {x : V2 (P × P)} (h : Pl2At (LT n) w x) (hb : Below n w W) (hm : n ≤ m) : Pl2At (LT m) W x := by
  obtain ⟨b, o, b', o', hp, hq, ⟨hG, hG'⟩, h1, h2⟩ := h
  exact ⟨b, o, b', o', hp, hq, ⟨Nat.lt_of_lt_of_le hG hm, Nat.lt_of_lt_of_le hG' hm⟩, PNode.mono (fun b o hb' => hb.cell (p := ⟨b, o, none⟩) hb') (fun _ h => Nat.lt_of_lt_of_le h hm) _ _ _ hG h1, PNode.mono (fun b o hb' => hb.cell (p := ⟨b, o, none⟩) hb') (fun _ h => Nat.lt_of_lt_of_le h hm) _ _ _ hG' h2⟩
theorem mem2P {p q : P} {pre : List (V2 (P × P))} {x : V2 (P × P)} (hok : no2Ok Tr2.shape (p, q) pre x) : x.key ∈ Tr2.pre p q 1 := by
  obtain ⟨⟨rest, hr⟩, _⟩ := hok
  have := Tr2.nKeys_shape (p, q)
  rw [← show nKeys Tr2.shape (p, q) = Tr2.pre p q 1 from this, ← show n2Keys Tr2.shape (p, q) = nKeys Tr2.shape (p, q) from rfl, ← hr]; simp
theorem not2P {p q : P} {pre : List (V2 (P × P))} {x : V2 (P × P)} (hok : no2Ok Tr2.shape (p, q) pre x) (h : Tr.alike x.t.1 x.t.2 = false) : Tr.same p q = false := by
  have hm := mem2P hok
  rw [← Tr.pre_same p q 1, Bool.eq_false_iff]
  intro ht
  rw [List.all_eq_true] at ht
  have := ht _ hm
  rw [show Tr.alike x.key.1.1 x.key.1.2 = false from h] at this; cases this
set_option maxRecDepth 100000 in
set_option maxHeartbeats 4000000 in
theorem sameP_any (n b o b' o' : Nat) (p q : P) (w : World) (hn : n ≤ w.heap.size) (hpl : Pl2At (LT n) w ⟨(p, q), some ⟨b, o, none⟩, some ⟨b', o', none⟩, 0, 1⟩) (hsz : Tr.size p ≤ 500000)
    (hal : ∀ (W : World) (x : V2 (P × P)), Pl2At (LT W.heap.size) W x → x.key ∈ Tr2.pre p q 1 → Calls Tryz.prog 127 #[.pointer x.p, .pointer x.q] W fun e W' => e = .returned (.bool (Tr.alike x.t.1 x.t.2)) ∧ Below W.heap.size W W') :
    Calls Tryz.prog 126 #[.pointer (some ⟨b, o, none⟩), .pointer (some ⟨b', o', none⟩), .func (.func 80) #[] #[], .func (.func 127) #[] #[]] w fun e w' => e = .returned (.bool (Tr.same p q)) ∧ Below w.heap.size w w' := by
  refine callsIn_wide (n := 9) |>.1 ?_
  have HPL := Lib.hid hpl; have HAL := Lib.hid hal
  have HOB := Lib.hid (fun w => ofBothP_new (.func (.func 80) #[] #[]) ⟨_, rfl⟩ w)
  have HND := Lib.hid (fun p q c w => nodes2P_any p q (.func (.func 153) #[] c) ⟨_, _, rfl⟩ w)
  clear hpl hal
  refine callsIn_of_wp_marks Tryz.func126 rfl trivial ?_ rfl
  simp only [Tryz.ntmps126, List.size_toArray, List.length_cons, List.length_nil, Nat.reduceAdd, Nat.reduceSub, Array.replicate_succ, Array.replicate_zero, List.push_toArray, List.append_toArray, List.nil_append, List.cons_append]
  gi_wp2_with (first | (refine ⟨trivial, ?_⟩; gi_at_call 139; refine (callsIn_wide.2 (HOB.out _)).mono ?_; rintro e w' ⟨rfl, rfl⟩) | (refine ⟨trivial, ?_⟩; gi_at_call 138; refine (callsIn_wide.2 (HND.out _ _ _ _)).mono ?_; rintro e w' ⟨rfl, rfl⟩))
  obtain ⟨W5, hW5⟩ : ∃ W5, [Obj.cells #[.func (.func 127) #[] #[]] 158, .cells #[.bool false] 4, .cells #[.func (.func 80) #[] #[]] 135, .cells #[.pointer (some ⟨b, o, none⟩), .pointer (some ⟨b', o', none⟩)] 175, .cells #[.func (.func 153) #[] #[.pointer (some ⟨w.heap.size + 1 + 1, 0, none⟩)]] 177].foldl World.alloc w = W5 := ⟨_, rfl⟩
  try rw [show ((((w.alloc (.cells #[.func (.func 127) #[] #[]] 158)).alloc (.cells #[.bool false] 4)).alloc (.cells #[.func (.func 80) #[] #[]] 135)).alloc (.cells #[.pointer (some ⟨b, o, none⟩), .pointer (some ⟨b', o', none⟩)] 175)).alloc (.cells #[.func (.func 153) #[] #[.pointer (some ⟨w.heap.size + 1 + 1, 0, none⟩)]] 177) = W5 from hW5]
  have hs5 : W5.heap.size = w.heap.size + 5 := by rw [← hW5]; exact allocs_size _ _
  have hb5 : Below w.heap.size w W5 := by rw [← hW5]; exact allocs_below _ _ (Nat.le_refl _)
  have hx0 : W5.heap[w.heap.size]? = some (.cells #[.func (.func 127) #[] #[]] 158) := by rw [← hW5]; exact allocs_get _ w 0 _ rfl
  have hx1 : W5.heap[w.heap.size + 1]? = some (.cells #[.bool false] 4) := by rw [← hW5]; exact allocs_get _ w 1 _ rfl
  have hx2 : W5.heap[w.heap.size + 1 + 1]? = some (.cells #[.func (.func 80) #[] #[]] 135) := by rw [← hW5]; exact allocs_get _ w 2 _ rfl
  have hx3 : W5.heap[w.heap.size + 1 + 1 + 1]? = some (.cells #[.pointer (some ⟨b, o, none⟩), .pointer (some ⟨b', o', none⟩)] 175) := by rw [← hW5]; exact allocs_get _ w 3 _ rfl
  have hx4 : W5.heap[w.heap.size + 1 + 1 + 1 + 1]? = some (.cells #[.func (.func 153) #[] #[.pointer (some ⟨w.heap.size + 1 + 1, 0, none⟩)]] 177) := by rw [← hW5]; exact allocs_get _ w 4 _ rfl
  clear hW5
  refine wpIn_range_pat2 (Bt := w.heap.size + 1 + 1 + 1) (Bk := w.heap.size + 1 + 1 + 1 + 1) (Bo := w.heap.size + 1 + 1) (n := w.heap.size + 1) (b := b) (o := o) (b' := b') (o' := o') (p := p) (q := q) rfl (by omega)
    (HPL.out.mono (hb5.mono hn) (by omega)) hsz (cell_box hx3 rfl rfl) (cell_box hx3 rfl rfl) (cell_box hx4 rfl rfl) hx2 rfl
    (fun M pre V => (V.heap[w.heap.size + 1]? = some (.cells #[.bool false] 4) ∧ ¬ M (w.heap.size + 1)) ∧ Below w.heap.size w V ∧ ((pre.map V2.key).all fun k => Tr.alike k.1.1 k.1.2) = true)
    (fun c M _ V => (V.heap[w.heap.size + 1]? = some (.cells #[.bool false] 4) ∧ ¬ M (w.heap.size + 1)) ∧ Below w.heap.size w V ∧ (c = .ret ∧ Tr.same p q = false))
    (fun x a' M V => ∃ A, a' = { tmps := #[.pointer (some ⟨b, o, none⟩), .pointer (some ⟨b', o', none⟩), .func (.func 80) #[] #[], .func (.func 127) #[] #[], undef, undef, undef, .pointer (some ⟨w.heap.size, 0, none⟩), .pointer (some ⟨w.heap.size + 1, 0, none⟩), .pointer (some ⟨A, 0, none⟩), .pointer (some ⟨b, o, none⟩), .pointer (some ⟨b', o', none⟩), .agg #[.pointer (some ⟨b, o, none⟩), .pointer (some ⟨b', o', none⟩)], .func (.func 80) #[] #[], .func (.func 153) #[] #[.pointer (some ⟨w.heap.size + 1 + 1, 0, none⟩)], .func (.func 151) #[] #[.pointer (some ⟨w.heap.size + 1 + 1 + 1, 0, none⟩), .pointer (some ⟨w.heap.size + 1 + 1 + 1 + 1, 0, none⟩)], .agg #[.pointer x.p, .pointer x.q], .int .i64 (x.d : Int), undef, undef, undef, undef, undef, undef, undef], defers := [] } ∧ V.heap[A]? = some (.cells #[.pointer x.p, .pointer x.q] 175) ∧ ¬ M A)
    (fun s => Ab.and (Ab.block _ _ _) (Ab.and (Ab.below hb5.size w (Nat.le_refl _)) (Ab.pure _ _))) (fun _ _ => Ab.and (Ab.block _ _ _) (Ab.and (Ab.below hb5.size w (Nat.le_refl _)) (Ab.pure _ _))) (fun _ _ => Ab.ex fun _ => Ab.and (Ab.pure _ _) (Ab.block _ _ _)) ⟨⟨hx1, fun h => h⟩, hb5, rfl⟩ ?assign ?body ?done ?stop
  case assign =>
    intro l M pre x V K hi hM hok hpl hK
    clear hx0 hx1 hx2 hx3 hx4 hi hpl
    simp [V2.enc2]
    gi_wp2
    exact hK _ _ (Turns.alloc _ _ _) ⟨V.heap.size, rfl, World.alloc_heap_new V _, fun h => by have := (hM _ h).2; omega⟩
  case body =>
    rintro l M pre x a' V ⟨⟨hr, hrM⟩, hbl, hall⟩ hbn hM hle hok hx2 ⟨A, rfl, hA, hAM⟩
    have hVs : w.heap.size + 5 ≤ V.heap.size := by rw [← hs5]; exact hle
    have hcall := HAL.out V x (hx2.mono hbn (by omega)) (mem2P hok)
    have hno := not2P hok
    have hf := (hbn.block _ (by omega)).trans hx0
    have c0 : V.cell? ⟨w.heap.size, 0, none⟩ = some (.func (.func 127) #[] #[]) := cell_box hf rfl rfl
    have d0 : V.cell? ⟨A, 0, none⟩ = some (.pointer x.p) := cell_box hA rfl rfl
    have d1 : V.cell? ⟨A, 1, none⟩ = some (.pointer x.q) := cell_box hA rfl rfl
    have hsn : (pre ++ [x]).map V2.key = pre.map V2.key ++ [x.key] := by simp
    obtain ⟨bq, hbq⟩ : ∃ b, Tr.alike x.t.1 x.t.2 = b := ⟨_, rfl⟩
    rw [hbq] at hcall hno
    have HR := Lib.hid hr; have HBL := Lib.hid hbl; have HALL := Lib.hid hall; have HRM := Lib.hid hrM; have HVS := Lib.hid hVs; have HCL := Lib.hid hcall; have HNO := Lib.hid hno; have HSN := Lib.hid hsn; have HBQ := Lib.hid hbq
    clear hx0 hx1 hx2 hx3 hx4 hr hbl hall hrM hVs hcall hno hsn hbq hM hle hok hbn hb5 hs5 hf hA hAM
    cases bq with
    | false =>
      have HW := Lib.hid (HNO.out rfl)
      gi_wp2_with (refine ⟨trivial, ?_⟩; gi_at_call 127; refine (CallsIn.inRound l (callsIn_wide.2 HCL.out)).mono ?_; rintro e w1 ⟨rfl, hb1⟩; have hr1 := (hb1.block _ (by have := HVS.out; omega)).trans HR.out; have f1 : w1.frozen? ⟨w.heap.size + 1, 0, none⟩ = false := Boxed.frozen hr1; have c1 : w1.cell? ⟨w.heap.size + 1, 0, none⟩ = some (.bool false) := cell_box hr1 rfl rfl; have HR1 := Lib.hid hr1; have HB1 := Lib.hid hb1; clear hr1 hb1)
      have hT : Turns (fun k => (w.heap.size + 1 ≤ k ∧ k ≠ w.heap.size + 1 + 1) ∧ ¬ M k) V w1 := turns_below HB1.out
      exact ⟨hT.trans (Turns.setCell _ _ _ ⟨⟨Nat.le_refl _, by simp⟩, HRM.out⟩), ⟨Boxed.set _ HR1.out, HRM.out⟩, (HBL.out.trans (HB1.out.mono HBL.out.size)).setCell (by simp) _, rfl, HW.out⟩
    | true =>
      gi_wp2_with (refine ⟨trivial, ?_⟩; gi_at_call 127; refine (CallsIn.inRound l (callsIn_wide.2 HCL.out)).mono ?_; rintro e w1 ⟨rfl, hb1⟩; have HB1 := Lib.hid hb1; clear hb1)
      refine ⟨turns_below HB1.out, ⟨(HB1.out.block _ (by have := HVS.out; omega)).trans HR.out, HRM.out⟩, HBL.out.trans (HB1.out.mono HBL.out.size), ?_⟩
      rw [HSN.out, List.all_append, HALL.out]
      simp [HBQ.out, V2.key]
  case done =>
    rintro D M xs V hD hMD hM hS ⟨⟨hr, hrM⟩, hbl, hall⟩ hK
    have cr : V.cell? ⟨w.heap.size + 1, 0, none⟩ = some (.bool false) := cell_box hr rfl rfl
    have fr : V.frozen? ⟨w.heap.size + 1, 0, none⟩ = false := Boxed.frozen hr
    have hne : w.heap.size + 1 ≠ D := by omega
    have hK' : (V.setCell ⟨w.heap.size + 1, 0, none⟩ (.bool true)).heap[D]? = some (.deferred (some [])) := (Below.heap_setCell _ _ _ D (fun e => hne e.symm)).trans hK
    have hr' : ((V.setCell ⟨w.heap.size + 1, 0, none⟩ (.bool true)).putObj D (.deferred none)).heap[w.heap.size + 1]? = some (.cells #[.bool true] 4) := (World.putObj_heap_other hne).trans (Boxed.set _ hr)
    have hwo : Tr.same p q = true := by
      have e1 := Tr2.nKeys_shape (p, q)
      have e2 : xs.map V2.key = Tr2.pre p q 1 := (show xs.map V2.key = nKeys Tr2.shape (p, q) from hS).trans e1
      rw [← Tr.pre_same p q 1, ← e2]; exact hall
    have HR' := Lib.hid hr'; have HBL := Lib.hid hbl; have HWO := Lib.hid hwo
    clear hx0 hx1 hx2 hx3 hx4 hr hr' hbl hwo hall hS
    gi_wp2
    refine ⟨by simp, .inl ⟨_, _, rfl, run_takeDeferred hK', ?_⟩⟩
    have hc5 := cell_box HR'.out rfl (i := 0) rfl
    refine ⟨.bool true, ?_, by rw [HWO.out], ?_⟩
    · simp [results, Tryz.f126, go_sem, hc5]
    · exact ((Turns.setCell (M := fun k => w.heap.size ≤ k) V ⟨w.heap.size + 1, 0, none⟩ _ (by simp)).trans (Turns.putObj _ D _ (by omega))).below HBL.out (fun _ h => h) HBL.out.size
  case stop =>
    rintro D M c pre V hD hMD hM ⟨⟨hr, hrM⟩, hbl, rfl, hbad⟩ hK
    have hne : w.heap.size + 1 ≠ D := by omega
    have hr' : (V.putObj D (.deferred none)).heap[w.heap.size + 1]? = some (.cells #[.bool false] 4) := (World.putObj_heap_other hne).trans hr
    have HR' := Lib.hid hr'; have HBL := Lib.hid hbl; have HWO := Lib.hid hbad
    clear hx0 hx1 hx2 hx3 hx4 hr hr' hbl hbad
    gi_wp2
    refine ⟨by simp, .inl ⟨_, _, rfl, run_takeDeferred hK, ?_⟩⟩
    have hc5 := cell_box HR'.out rfl (i := 0) rfl
    refine ⟨.bool false, ?_, by rw [HWO.out], ?_⟩
    · simp [results, Tryz.f126, go_sem, hc5]
    · exact (Turns.putObj (M := fun k => w.heap.size ≤ k) _ D _ (by omega)).below HBL.out (fun _ h => h) HBL.out.size
end Go.Proofs.YtmmhpibkjdlkgaaGreat
namespace Go.Proofs.YtmmhpibkjdlkgaaGreat
open Go Go.RowKit Go.Shelf

set_option maxRecDepth 100000 in
set_option maxHeartbeats 2000000 in
theorem alikePat_any (b o cap b' o' cap' : Nat) (p q : Tr.P) (a a' : Option Addr) (w : World) (hc : PCells w b o p a cap) (hd : PCells w b' o' q a' cap') :
    Calls Tryz.prog 127 #[.pointer (some ⟨b, o, none⟩), .pointer (some ⟨b', o', none⟩)] w fun e w' => e = .returned (.bool (Tr.alike p q)) ∧ ∃ m, w' = w.drewN m := by
  obtain ⟨e0, -, -, e3, e4, e5, e6⟩ := hc
  obtain ⟨f0, -, -, f3, f4, f5, f6⟩ := hd
  have hal : Tr.alike p q = (decide (p.kind = q.kind) && decide (p.nm = q.nm) && decide (p.num = q.num) && decide (p.s = q.s) && decide (p.kids.length = q.kids.length)) := rfl
  rw [hal]
  clear hal
  generalize p.kind = k1 at *
  generalize q.kind = k2 at *
  generalize p.nm = n1 at *
  generalize q.nm = n2 at *
  generalize p.num = x1 at *
  generalize q.num = x2 at *
  generalize p.s = s1 at *
  generalize q.s = s2 at *
  generalize p.kids.length = l1 at *
  generalize q.kids.length = l2 at *
  clear p q
  go_enter Tryz.func127, Tryz.ntmps127
  go_upto_region 1 with fail
  by_cases h1 : k1 = k2
  case neg =>
    have g1 : (k1 == k2) = false := by simp [h1]
    go_quiet (fail)
    go_wp2_with fail
    go_ret
    exact ⟨by simp [h1], _, rfl⟩
  subst h1
  by_cases h2 : n1 = n2
  case neg =>
    have g2 : (n1 == n2) = false := by simp [h2]
    go_quiet (fail)
    go_wp2_with fail
    go_ret
    exact ⟨by simp, _, rfl⟩
  subst h2
  by_cases h3 : x1 = x2
  case neg =>
    have g3 : (x1 == x2) = false := by simp [h3]
    go_quiet (fail)
    go_wp2_with fail
    go_ret
    exact ⟨by simp, _, rfl⟩
  subst h3
  by_cases h4 : s1 = s2
  case neg =>
    have g4 : (s1 == s2) = false := by simp [h4]
    go_quiet (fail)
    go_wp2_with fail
    go_ret
    exact ⟨by simp, _, rfl⟩
  subst h4
  go_quiet (fail)
  go_wp2_with fail
  go_ret
  refine ⟨?_, _, rfl⟩
  have hl : ((l1 : Int) == (l2 : Int)) = decide (l1 = l2) := by
    by_cases h : l1 = l2
    · subst h; simp
    · rw [decide_eq_false h]
      exact beq_eq_false_iff_ne.2 (by omega)
  show Ending.returned (.bool ((l1 : Int) == (l2 : Int))) = _
  rw [hl]
end Go.Proofs.YtmmhpibkjdlkgaaGreat
namespace Go.Proofs.YtmmhpibkjdlkgaaGreat
open Go Go.RowKit Go.Shelf
open Tr (P)

/-- What 'alikePat' owes of two nodes that lie. -/
theorem alikePat_at (W : World) (x : V2 (P × P)) (h : Pl2At (LT W.heap.size) W x) : Calls Tryz.prog 127 #[.pointer x.p, .pointer x.q] W fun e W' => e = .returned (.bool (Tr.alike x.t.1 x.t.2)) ∧ Below W.heap.size W W' := by
  obtain ⟨b, o, b', o', hp, hq, _, h1, h2⟩ := h
  obtain ⟨a, cap, _, hc⟩ := h1.pat
  obtain ⟨a', cap', _, hc'⟩ := h2.pat
  rw [hp, hq]
  refine (alikePat_any b o cap b' o' cap' x.t.1 x.t.2 a a' W hc hc').mono ?_
  rintro e W' ⟨rfl, m, rfl⟩
  exact ⟨rfl, ⟨rfl, rfl, rfl, Nat.le_refl _, fun _ _ => rfl⟩⟩
set_option maxRecDepth 100000 in
set_option maxHeartbeats 2000000 in
theorem samePat_any (p q : P) (a a' : Option Addr) (cap cap' : Nat) (w : World) (hsz : Tr.size p ≤ 10000) (hp : PatAt (LT w.heap.size) w p a cap) (hq : PatAt (LT w.heap.size) w q a' cap') :
    Calls Tryz.prog 99 #[pv p a cap, pv q a' cap'] w fun e w' => e = .returned (.bool (Tr.same p q)) ∧ Below w.heap.size w w' := by
  have HP := Lib.hid hp; have HQ := Lib.hid hq
  clear hp hq
  obtain ⟨c, hc⟩ : ∃ c, #[Value.int .i64 p.kind, .int .i64 p.frm, .int .i64 p.til, .string ⟨p.nm.toArray⟩, .int .i64 p.num, .string ⟨p.s.toArray⟩, .slice a p.kids.length cap] = c := ⟨_, rfl⟩
  obtain ⟨d, hd⟩ : ∃ d, #[Value.int .i64 q.kind, .int .i64 q.frm, .int .i64 q.til, .string ⟨q.nm.toArray⟩, .int .i64 q.num, .string ⟨q.s.toArray⟩, .slice a' q.kids.length cap'] = d := ⟨_, rfl⟩
  have hbc : ∀ w, (Instr.box 50 (.agg c)).run Tryz.prog w = .ok (.pointer (some ⟨w.heap.size, 0, none⟩)) (w.alloc (.cells c 50)) := by intro w; rw [← hc]; rfl
  have hbd : ∀ w, (Instr.box 50 (.agg d)).run Tryz.prog w = .ok (.pointer (some ⟨w.heap.size, 0, none⟩)) (w.alloc (.cells d 50)) := by intro w; rw [← hd]; rfl
  unfold pv
  rw [hc, hd]
  obtain ⟨W2, hW2⟩ : ∃ W2, [Obj.cells c 50, .cells d 50].foldl World.alloc w = W2 := ⟨_, rfl⟩
  have hs2 : W2.heap.size = w.heap.size + 2 := by rw [← hW2]; exact allocs_size _ _
  have hb2 : Below w.heap.size w W2 := by rw [← hW2]; exact allocs_below _ _ (Nat.le_refl _)
  have hx0 : W2.heap[w.heap.size]? = some (.cells c 50) := by rw [← hW2]; exact allocs_get _ w 0 _ rfl
  have hx1 : W2.heap[w.heap.size + 1]? = some (.cells d 50) := by rw [← hW2]; exact allocs_get _ w 1 _ rfl
  rw [← hc] at hx0
  rw [← hd] at hx1
  have hn1 : PNode (LT W2.heap.size) W2 p w.heap.size 0 := PNode.mk' (HP.out.below hb2 (fun _ h => h) (fun _ h => Nat.lt_of_lt_of_le h hb2.size)) ⟨cell_box hx0 rfl rfl, cell_box hx0 rfl rfl, cell_box hx0 rfl rfl, cell_box hx0 rfl rfl, cell_box hx0 rfl rfl, cell_box hx0 rfl rfl, cell_box hx0 rfl rfl⟩
  have hn2 : PNode (LT W2.heap.size) W2 q (w.heap.size + 1) 0 := PNode.mk' (HQ.out.below hb2 (fun _ h => h) (fun _ h => Nat.lt_of_lt_of_le h hb2.size)) ⟨cell_box hx1 rfl rfl, cell_box hx1 rfl rfl, cell_box hx1 rfl rfl, cell_box hx1 rfl rfl, cell_box hx1 rfl rfl, cell_box hx1 rfl rfl, cell_box hx1 rfl rfl⟩
  have hcall := sameP_any W2.heap.size w.heap.size 0 (w.heap.size + 1) 0 p q W2 (Nat.le_refl _) ⟨w.heap.size, 0, w.heap.size + 1, 0, rfl, rfl, ⟨by show _ < _; omega, by show _ < _; omega⟩, hn1, hn2⟩ (by omega) (fun W x h _ => alikePat_at W x h)
  have HCL := Lib.hid hcall; have HB2 := Lib.hid hb2
  have hW2' : (w.alloc (.cells c 50)).alloc (.cells d 50) = W2 := hW2
  have HW2 := Lib.hid hW2'
  clear hcall hb2 hx0 hx1 hn1 hn2 hs2 hW2 hW2' hc hd
  go_enter Tryz.func99, Tryz.ntmps99
  go_upto_region 1 with fail
  rw [HW2.out]
  go_wp2_with (go_at_call 126; with_reducible refine HCL.out.mono ?_; rintro e w1 ⟨rfl, hb1⟩; have HB1 := Lib.hid hb1; clear hb1)
  go_ret
  exact ⟨rfl, HB2.out.trans (HB1.out.mono HB2.out.size)⟩
end Go.Proofs.YtmmhpibkjdlkgaaGreat

/- tree.Check, walked. -/
import Derived.Test.YtmmhpibkjdlkgaaGreatTcI
import Derived.Test.YtmmhpibkjdlkgaaGreatTyS
namespace Go.Proofs.YtmmhpibkjdlkgaaGreat
open Go Go.RowKit Go.Shelf
open Ex (E)

attribute [local go_sem] Oper.semAt_some

namespace Ex
mutual
def right : E → Bool | .mk k f t nm ar n s op A B ps l => nodeRight (.mk k f t nm ar n s op A B ps l) && rights l
def rights : List E → Bool | [] => true | x :: r => right x && rights r
end
mutual
theorem pre_right : ∀ (p : E) (d : Nat), ((pre p d).all fun k => nodeRight k.1) = right p
  | .mk k f t nm ar n s op A B ps l, d => by rw [pre, List.all_cons, pres_right l (d + 1), right]
theorem pres_right : ∀ (l : List E) (d : Nat), ((pres l d).all fun k => nodeRight k.1) = rights l
  | [], d => by simp [pres, rights]
  | x :: r, d => by rw [pres, List.all_append, pre_right x d, pres_right r d, rights]
end
/-- Nothing of a whole expression that is asked of is too great. -/
def FineAll (e : E) : Prop := size e ≤ 10000 ∧ ∀ k ∈ pre e 1, Fine k.1
end Ex
theorem ekeys_snoc (pre : List (Vi E)) (x : Vi E) : (pre ++ [x]).map Vi.key = pre.map Vi.key ++ [(x.t, x.i, x.d)] := by simp [Vi.key]
theorem eat_mem {e : E} {pre : List (Vi E)} {x : Vi E} (hok : noOk Ex.shape e pre x) : (x.t, x.i, x.d) ∈ Ex.pre e 1 := by
  obtain ⟨⟨rest, hr⟩, _⟩ := hok
  rw [Ex.nKeys_shape] at hr
  rw [← hr]; simp [Vi.key]
theorem right_not {e : E} {pre : List (Vi E)} {x : Vi E} (hok : noOk Ex.shape e pre x) (h : Ex.nodeRight x.t = false) : Ex.right e = false := by
  have hm := eat_mem hok
  rw [← Ex.pre_right e 1, Bool.eq_false_iff]
  intro ht
  rw [List.all_eq_true] at ht
  have := ht _ hm
  rw [h] at this; cases this
set_option maxRecDepth 100000 in
set_option maxHeartbeats 4000000 in
theorem check_anyE (e : E) (s : Leads) (w : World) (hf : Ex.FineAll e) (h : ExAt (LT w.heap.size) w e s) :
    Calls Tryz.prog 16 #[ev e s] w fun r w' => r = .returned (.int .i64 (errOf (Ex.right e))) ∧ Below w.heap.size w w' := by
  refine callsIn_wide (n := 9) |>.1 ?_
  have HE := Lib.hid h; clear h
  have H30 := Lib.hid (fun b w => nodesE_any (.pointer (some ⟨b, 0, none⟩)) (.func (.func 51) #[] #[]) ⟨_, rfl⟩ ⟨_, rfl⟩ w)
  obtain ⟨c, hc⟩ : ∃ c, (evCells e s).toArray = c := ⟨_, rfl⟩
  have hbox : ∀ w, (Instr.box 30 (.agg c)).run Tryz.prog w = .ok (.pointer (some ⟨w.heap.size, 0, none⟩)) (w.alloc (.cells c 30)) := by
    intro w; rw [← hc]; rfl
  unfold ev
  rw [hc]
  have HC := Lib.hid hc
  clear hc
  refine callsIn_of_wp_marks Tryz.func16 rfl trivial ?_ rfl
  simp only [Tryz.ntmps16, List.size_toArray, List.length_cons, List.length_nil, Nat.reduceAdd, Nat.reduceSub, Array.replicate_succ, Array.replicate_zero, List.push_toArray, List.append_toArray, List.nil_append, List.cons_append]
  gi_wp2_with (refine ⟨trivial, ?_⟩; gi_at_call 50; refine (callsIn_wide.2 (H30.out _ _)).mono ?_; rintro e w' ⟨rfl, rfl⟩)
  obtain ⟨W4, hW4⟩ : ∃ W4, ((((w.alloc (.cells c 30)).alloc (.cells #[.int .i64 0] 33)).alloc (.cells #[.pointer (some ⟨w.heap.size, 0, none⟩)] 68)).alloc (.cells #[.func (.func 51) #[] #[]] 114)) = W4 := ⟨_, rfl⟩
  try rw [hW4]
  have hL : [Obj.cells c 30, .cells #[.int .i64 0] 33, .cells #[.pointer (some ⟨w.heap.size, 0, none⟩)] 68, .cells #[.func (.func 51) #[] #[]] 114].foldl World.alloc w = W4 := hW4
  have hs4 : W4.heap.size = w.heap.size + 4 := by rw [← hL]; exact allocs_size _ _
  have hb4 : Below w.heap.size w W4 := by rw [← hL]; exact allocs_below _ _ (Nat.le_refl _)
  have hx : W4.heap[w.heap.size]? = some (.cells c 30) := by rw [← hL]; exact allocs_get _ w 0 _ rfl
  have hx1 : W4.heap[w.heap.size + 1]? = some (.cells #[.int .i64 0] 33) := by rw [← hL]; exact allocs_get _ w 1 _ rfl
  have hx2 : W4.heap[w.heap.size + 1 + 1]? = some (.cells #[.pointer (some ⟨w.heap.size, 0, none⟩)] 68) := by rw [← hL]; exact allocs_get _ w 2 _ rfl
  have hx3 : W4.heap[w.heap.size + 1 + 1 + 1]? = some (.cells #[.func (.func 51) #[] #[]] 114) := by rw [← hL]; exact allocs_get _ w 3 _ rfl
  clear hL hW4
  refine wpIn_range_expr (Bt := w.heap.size + 1 + 1) (Bk := w.heap.size + 1 + 1 + 1) (n := w.heap.size + 1) (b := w.heap.size) (o := 0) (p := e) rfl (by omega)
    ⟨w.heap.size, 0, rfl, Nat.lt_succ_self _, HE.out.boxed hb4 (by rw [HC.out]; exact hx) _ (Nat.le_succ _) (Nat.lt_succ_self _)⟩ (by have := hf.1; omega) (cell_box hx2 rfl rfl) (cell_box hx3 rfl rfl) rfl
    (fun M pre V => (V.heap[w.heap.size + 1]? = some (.cells #[.int .i64 0] 33) ∧ ¬ M (w.heap.size + 1)) ∧ Below w.heap.size w V ∧ ((pre.map Vi.key).all fun k => Ex.nodeRight k.1) = true)
    (fun c M _ V => (V.heap[w.heap.size + 1]? = some (.cells #[.int .i64 1] 33) ∧ ¬ M (w.heap.size + 1)) ∧ Below w.heap.size w V ∧ (c = .ret ∧ Ex.right e = false))
    (fun x a' _ _ => a' = { tmps := #[.agg c, .pointer (some ⟨w.heap.size, 0, none⟩), .pointer (some ⟨w.heap.size + 1, 0, none⟩), .pointer x.p, .func (.func 86) #[] #[.pointer (some ⟨w.heap.size + 1 + 1, 0, none⟩), .pointer (some ⟨w.heap.size + 1 + 1 + 1, 0, none⟩)], .pointer x.p, .int .i64 (x.d : Int), undef, undef, undef, undef, undef], defers := [] })
    (fun s => Ab.and (Ab.block _ _ _) (Ab.and (Ab.below hb4.size w (Nat.le_refl _)) (Ab.pure _ _))) (fun _ _ => Ab.and (Ab.block _ _ _) (Ab.and (Ab.below hb4.size w (Nat.le_refl _)) (Ab.pure _ _))) (fun _ _ => Ab.pure _ _) ⟨⟨hx1, fun h => h⟩, hb4, rfl⟩ ?assign ?body ?done ?stop
  case assign =>
    intro l M pre x V K hi hM hok hpl hK
    clear hx hx1 hx2 hx3 hi hpl
    gi_wp2
    exact hK _ _ (Turns.refl _ _) (by simp [Vi.enc2])
  case body =>
    rintro l M pre x a' V ⟨⟨hr, hrM⟩, hbl, hall⟩ hM hle hok ⟨b, o, hxp, hG, hn⟩ rfl
    obtain ⟨s, hat, hcs⟩ := hn.parts
    have hVs : w.heap.size + 4 ≤ V.heap.size := by rw [← hs4]; exact hle
    have hfx : Ex.Fine x.t := hf.2 _ (eat_mem hok)
    have h55 := rightExpr_any x.t s V hfx (hat.mono (fun _ _ _ => rfl) (fun b h => Nat.lt_of_lt_of_le h (by omega)))
    have hno := right_not hok
    have hsn := ekeys_snoc pre x
    unfold ev evCells at h55
    have e0 : V.cell? ⟨b, o, none⟩ = some (.int .i64 x.t.kind) := hcs 0 _ rfl
    have e1 : V.cell? ⟨b, o + 1, none⟩ = some (.int .i64 x.t.frm) := hcs 1 _ rfl
    have e2 : V.cell? ⟨b, o + 2, none⟩ = some (.int .i64 x.t.til) := hcs 2 _ rfl
    have e3 : V.cell? ⟨b, o + 3, none⟩ = some (.string ⟨x.t.nm.toArray⟩) := hcs 3 _ rfl
    have e4 : V.cell? ⟨b, o + 4, none⟩ = some (.string ⟨x.t.ar.toArray⟩) := hcs 4 _ rfl
    have e5 : V.cell? ⟨b, o + 5, none⟩ = some (.int .i64 x.t.num) := hcs 5 _ rfl
    have e6 : V.cell? ⟨b, o + 6, none⟩ = some (.string ⟨x.t.s.toArray⟩) := hcs 6 _ rfl
    have e7 : V.cell? ⟨b, o + 7, none⟩ = some (.int .i64 x.t.op) := hcs 7 _ rfl
    have e8 : V.cell? ⟨b, o + 8, none⟩ = some (.int .i64 x.t.a.kind) := hcs 8 _ rfl
    have e9 : V.cell? ⟨b, o + 9, none⟩ = some (.int .i64 x.t.a.num) := hcs 9 _ rfl
    have e10 : V.cell? ⟨b, o + 10, none⟩ = some (.slice s.aa x.t.a.kids.length s.ac) := hcs 10 _ rfl
    have e11 : V.cell? ⟨b, o + 11, none⟩ = some (.int .i64 x.t.b.kind) := hcs 11 _ rfl
    have e12 : V.cell? ⟨b, o + 12, none⟩ = some (.int .i64 x.t.b.num) := hcs 12 _ rfl
    have e13 : V.cell? ⟨b, o + 13, none⟩ = some (.slice s.ba x.t.b.kids.length s.bc) := hcs 13 _ rfl
    have e14 : V.cell? ⟨b, o + 14, none⟩ = some (.slice s.pa x.t.pats.length s.pc) := hcs 14 _ rfl
    have e15 : V.cell? ⟨b, o + 15, none⟩ = some (.slice s.ka x.t.kids.length s.kc) := hcs 15 _ rfl
    obtain ⟨k0, hk0⟩ : ∃ k, x.t.kind = k := ⟨_, rfl⟩
    obtain ⟨k1, hk1⟩ : ∃ k, x.t.frm = k := ⟨_, rfl⟩
    obtain ⟨k2, hk2⟩ : ∃ k, x.t.til = k := ⟨_, rfl⟩
    obtain ⟨k3, hk3⟩ : ∃ k, x.t.nm = k := ⟨_, rfl⟩
    obtain ⟨k4, hk4⟩ : ∃ k, x.t.ar = k := ⟨_, rfl⟩
    obtain ⟨k5, hk5⟩ : ∃ k, x.t.num = k := ⟨_, rfl⟩
    obtain ⟨k6, hk6⟩ : ∃ k, x.t.s = k := ⟨_, rfl⟩
    obtain ⟨k7, hk7⟩ : ∃ k, x.t.op = k := ⟨_, rfl⟩
    obtain ⟨k8, hk8⟩ : ∃ k, x.t.a.kind = k := ⟨_, rfl⟩
    obtain ⟨k9, hk9⟩ : ∃ k, x.t.a.num = k := ⟨_, rfl⟩
    obtain ⟨k10, hk10⟩ : ∃ k, x.t.a.kids.length = k := ⟨_, rfl⟩
    obtain ⟨k11, hk11⟩ : ∃ k, x.t.b.kind = k := ⟨_, rfl⟩
    obtain ⟨k12, hk12⟩ : ∃ k, x.t.b.num = k := ⟨_, rfl⟩
    obtain ⟨k13, hk13⟩ : ∃ k, x.t.b.kids.length = k := ⟨_, rfl⟩
    obtain ⟨k14, hk14⟩ : ∃ k, x.t.pats.length = k := ⟨_, rfl⟩
    obtain ⟨k15, hk15⟩ : ∃ k, x.t.kids.length = k := ⟨_, rfl⟩
    rw [hk0, hk1, hk2, hk3, hk4, hk5, hk6, hk7, hk8, hk9, hk10, hk11, hk12, hk13, hk14, hk15] at h55
    rw [hk0] at e0
    rw [hk1] at e1
    rw [hk2] at e2
    rw [hk3] at e3
    rw [hk4] at e4
    rw [hk5] at e5
    rw [hk6] at e6
    rw [hk7] at e7
    rw [hk8] at e8
    rw [hk9] at e9
    rw [hk10] at e10
    rw [hk11] at e11
    rw [hk12] at e12
    rw [hk13] at e13
    rw [hk14] at e14
    rw [hk15] at e15
    clear hk0 hk1 hk2 hk3 hk4 hk5 hk6 hk7 hk8 hk9 hk10 hk11 hk12 hk13 hk14 hk15
    obtain ⟨bq, hbq⟩ : ∃ b, Ex.nodeRight x.t = b := ⟨_, rfl⟩
    rw [hbq] at h55 hno
    rw [hxp]
    have HR := Lib.hid hr; have HBL := Lib.hid hbl; have HALL := Lib.hid hall; have HRM := Lib.hid hrM; have HVS := Lib.hid hVs; have H55 := Lib.hid h55; have HNO := Lib.hid hno; have HSN := Lib.hid hsn; have HBQ := Lib.hid hbq
    clear hx hx1 hx2 hx3 hr hbl hall hrM hVs h55 hno hsn hbq hM hle hok hG hn hat hcs hfx hxp hb4 hs4
    cases bq with
    | false =>
      have HW := Lib.hid (HNO.out rfl)
      gi_wp2_with (refine ⟨trivial, ?_⟩; gi_at_call 55; refine (CallsIn.inRound l (callsIn_wide.2 H55.out)).mono ?_; rintro e w1 ⟨rfl, hb1⟩; have hr1 := (hb1.block _ (by have := HVS.out; omega)).trans HR.out; have f1 : w1.frozen? ⟨w.heap.size + 1, 0, none⟩ = false := Boxed.frozen hr1; have c1 : w1.cell? ⟨w.heap.size + 1, 0, none⟩ = some (.int .i64 0) := cell_box hr1 rfl rfl; have HR1 := Lib.hid hr1; have HB1 := Lib.hid hb1; clear hr1 hb1)
      have hT : Turns (fun k => w.heap.size + 1 ≤ k ∧ ¬ M k) V w1 := ⟨HB1.out.os, HB1.out.tape, HB1.out.output, HB1.out.size, fun k hk _ => HB1.out.block k hk⟩
      exact ⟨hT.trans (Turns.setCell _ _ _ ⟨Nat.le_refl _, HRM.out⟩), ⟨Boxed.set _ HR1.out, HRM.out⟩, (HBL.out.trans (HB1.out.mono HBL.out.size)).setCell (by simp) _, rfl, HW.out⟩
    | true =>
      gi_wp2_with (refine ⟨trivial, ?_⟩; gi_at_call 55; refine (CallsIn.inRound l (callsIn_wide.2 H55.out)).mono ?_; rintro e w1 ⟨rfl, hb1⟩; have HB1 := Lib.hid hb1; clear hb1)
      refine ⟨⟨HB1.out.os, HB1.out.tape, HB1.out.output, HB1.out.size, fun k hk _ => HB1.out.block k hk⟩, ⟨(HB1.out.block _ (by have := HVS.out; omega)).trans HR.out, HRM.out⟩, HBL.out.trans (HB1.out.mono HBL.out.size), ?_⟩
      rw [HSN.out, List.all_append, HALL.out]
      simp [HBQ.out]
  case done =>
    rintro D M xs V hD hMD hM hS ⟨⟨hr, hrM⟩, hbl, hall⟩ hK
    have cr : V.cell? ⟨w.heap.size + 1, 0, none⟩ = some (.int .i64 0) := cell_box hr rfl rfl
    have fr : V.frozen? ⟨w.heap.size + 1, 0, none⟩ = false := Boxed.frozen hr
    have hne : w.heap.size + 1 ≠ D := by omega
    have hK' : (V.setCell ⟨w.heap.size + 1, 0, none⟩ (.int .i64 0)).heap[D]? = some (.deferred (some [])) := (Below.heap_setCell _ _ _ D (fun e => hne e.symm)).trans hK
    have hr' : ((V.setCell ⟨w.heap.size + 1, 0, none⟩ (.int .i64 0)).putObj D (.deferred none)).heap[w.heap.size + 1]? = some (.cells #[.int .i64 0] 33) := (World.putObj_heap_other hne).trans (Boxed.set _ hr)
    have hwo : Ex.right e = true := by
      rw [noAll, Ex.nKeys_shape] at hS
      rw [← Ex.pre_right e 1, ← hS]; exact hall
    have HR' := Lib.hid hr'; have HBL := Lib.hid hbl; have HWO := Lib.hid hwo
    clear hx hx1 hx2 hx3 hr hr' hbl hwo hall hS
    gi_wp2
    refine ⟨by simp, .inl ⟨_, _, rfl, run_takeDeferred hK', ?_⟩⟩
    have hc5 := cell_box HR'.out rfl (i := 0) rfl
    refine ⟨.int .i64 0, ?_, by rw [HWO.out]; rfl, ?_⟩
    · simp [results, Tryz.f16, go_sem, hc5]
    · exact ((Turns.setCell (M := fun k => w.heap.size ≤ k) V ⟨w.heap.size + 1, 0, none⟩ _ (by simp)).trans (Turns.putObj _ D _ (by omega))).below HBL.out (fun _ h => h) HBL.out.size
  case stop =>
    rintro D M c pre V hD hMD hM ⟨⟨hr, hrM⟩, hbl, rfl, hbad⟩ hK
    have hne : w.heap.size + 1 ≠ D := by omega
    have hr' : (V.putObj D (.deferred none)).heap[w.heap.size + 1]? = some (.cells #[.int .i64 1] 33) := (World.putObj_heap_other hne).trans hr
    have HR' := Lib.hid hr'; have HBL := Lib.hid hbl; have HWO := Lib.hid hbad
    clear hx hx1 hx2 hx3 hr hr' hbl hbad
    gi_wp2
    refine ⟨by simp, .inl ⟨_, _, rfl, run_takeDeferred hK, ?_⟩⟩
    have hc5 := cell_box HR'.out rfl (i := 0) rfl
    refine ⟨.int .i64 1, ?_, by rw [HWO.out]; rfl, ?_⟩
    · simp [results, Tryz.f16, go_sem, hc5]
    · exact (Turns.putObj (M := fun k => w.heap.size ≤ k) _ D _ (by omega)).below HBL.out (fun _ h => h) HBL.out.size
end Go.Proofs.YtmmhpibkjdlkgaaGreat

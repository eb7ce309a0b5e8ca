/- tree.With, walked. -/
import Derived.Test.YtmmhpibkjdlkgaaGreatWtE
import Derived.Test.YtmmhpibkjdlkgaaGreatTdS
import Derived.Test.YtmmhpibkjdlkgaaGreatTnB
import Derived.Laws.Tables
import Derived.Laws.CopyRow
import Derived.Laws.CopyOwn
import Derived.Laws.ResultCell
namespace Go.Proofs.YtmmhpibkjdlkgaaGreat
open Go Go.RowKit Go.Shelf
open Ex (E)

attribute [local go_sem] Oper.semAt_some

/-- The zero value. -/
def Ex.zero : E := .mk 0 0 0 [] [] 0 [] 0 (.mk 0 0 []) (.mk 0 0 []) [] []
/-- What With hands back: an expression, and a number. -/
def withOf (e : E) (l : List Tp.T) : E × Int := if Ex.right e && l.all Tp.ann then (if l.length = (Ex.anns e).length then (Ex.wth e l, 0) else (Ex.zero, 2)) else (Ex.zero, 1)
/-- A whole value into a row of its own. -/
theorem wpListIn_store_row {F : Fence} {n' : Nat} {P : Program} {w : World} {ops : Array Oper} {rest : List Oper} {o : Oper} {a : Act} {Q : Exit → Act → World → Prop} (hgd : o.guard = none) (ty : TypeId) (x y : Operand) (ho : o.op = .store ty x y)
    (g : Nat) (cells old : Array Value) (t : TypeId) (hx : a.eval x = .pointer (some ⟨g, 0, none⟩)) (hy : a.eval y = .agg cells) (hg : w.heap[g]? = some (.cells old t)) (hi : (P.info? ty).map (·.size) = some cells.size) (hold : old.size = cells.size) (h1 : cells.all (·.oneCell') = true)
    (hK : wpListIn F n' P ops Q rest (a.put o.dst undef) (w.setRow g cells)) : wpListIn F n' P ops Q (o :: rest) a w := by
  refine wpListIn_plain hgd fun K hK' => ?_
  unfold Oper.wpIn
  refine ⟨?_, ?_⟩
  · simp [Oper.about, ho]
  · rw [Oper.semAt_plain F _ _ (by rw [ho]; intro c hc'; cases hc')]
    unfold execOp
    simp only [ho, hx, hy, Instr.storeAt, Instr.sureAddr, Sem.run_bind, Sem.run_pure, Result.andThen_ok, run_storeVar_row w g t ty old cells hg hi hold h1]
    exact hK' _ _ hK
def noLeads : Leads := ⟨none, 0, none, 0, none, 0, none, 0⟩
def zeroCells : Array Value := #[.int .i64 0, .int .i64 0, .int .i64 0, .string ⟨#[]⟩, .string ⟨#[]⟩, .int .i64 0, .string ⟨#[]⟩, .int .i64 0, .int .i64 0, .int .i64 0, .slice none 0 0, .int .i64 0, .int .i64 0, .slice none 0 0, .slice none 0 0, .slice none 0 0]
theorem i64_zero : I64 0 := by unfold I64; omega
theorem zero_at (G : Nat → Prop) (W : World) : ExAt G W Ex.zero noLeads := by
  have ht : TyAt G W (.mk 0 0 []) none 0 := ⟨i64_zero, i64_zero, Nat.le_refl _, Nat.zero_le _, by show KidsAt G W [] none; simp [KidsAt]⟩
  refine ⟨⟨i64_zero, i64_zero, i64_zero⟩, ht, ht, ⟨Nat.le_refl _, Nat.zero_le _⟩, ?_, ⟨Nat.le_refl _, Nat.zero_le _⟩, ?_⟩
  · show PKids G W [] none
    simp only [PKids]
  · show EKids G W [] none
    simp only [EKids]
theorem with_bad {e : E} {l : List Tp.T} {w w1 : World} {tmps : Array Value} {g : Nat} {k : Int} (hg : w1.heap[g]? = some (.cells zeroCells 30)) (h4 : tmps.getD 4 undef = .pointer (some ⟨g, 0, none⟩)) (h5 : tmps.getD 5 undef = .int .i64 k) (hw : withOf e l = (Ex.zero, k)) (hb : Below w.heap.size w w1) :
    ∃ v, (results Tryz.f33 tmps).run Tryz.prog w1 = .ok v w1 ∧ (∃ s', Ending.returned v = .returned (.tuple #[ev (withOf e l).1 s', .int .i64 (withOf e l).2]) ∧ ExAt (LT w1.heap.size) w1 (withOf e l).1 s') ∧ Below w.heap.size w w1 := by
  refine ⟨.tuple #[.agg zeroCells, .int .i64 k], ?_, ⟨noLeads, by rw [hw]; rfl, by rw [hw]; exact zero_at _ _⟩, hb⟩
  rw [results_cell_tmp (p := 4) (u := 5) (ty := 30) (by kernel_rfl), h4, h5]
  simp [asAddr, Result.andThen, run_loadVar_row w1 _ 30 30 _ _ _ hg Tryz.underlying30 rfl (by kernel_rfl)]
namespace Ex
mutual
theorem node_size : ∀ (p : E) (d : Nat) (k : E × Nat × Nat), k ∈ pre p d → size k.1 ≤ size p
  | .mk k0 f t nm ar n s op A B ps l, d, k, h => by
    rw [pre] at h
    rcases List.mem_cons.1 h with rfl | h
    · exact Nat.le_refl _
    · have := nodes_size l (d + 1) k h
      rw [size]; omega
theorem nodes_size : ∀ (l : List E) (d : Nat) (k : E × Nat × Nat), k ∈ pres l d → size k.1 ≤ sizes l
  | [], d, k, h => by simp [pres] at h
  | x :: r, d, k, h => by
    rw [pres] at h
    rw [sizes]
    rcases List.mem_append.1 h with h | h
    · have := node_size x d k h; omega
    · have := nodes_size r d k h; omega
end
theorem kids_size (e : E) : e.kids.length < size e := by
  have hl : ∀ l : List E, l.length ≤ sizes l := fun l => by
    induction l with
    | nil => exact Nat.zero_le _
    | cons x r ih => have : 0 < size x := by cases x; rw [size]; omega
                     rw [sizes, List.length_cons]; omega
  cases e with
  | mk k f t nm ar n s op A B ps l => have := hl l; rw [size]; show l.length < _; omega
end Ex
theorem px_kids {e : E} {pre : List (Vi (E × List Nat))} {x : Vi (E × List Nat)} (hok : noOk Px.shape (e, []) pre x) : x.t.1.kids.length < Ex.size e := by
  obtain ⟨⟨rest, hr⟩, _⟩ := hok
  have h2 : pre.map Vi.key ++ x.key :: rest = Px.pre e [] 1 := by rw [hr]; exact Px.nKeys_shape (e, [])
  have h3 : x.key ∈ Px.pre e [] 1 := by rw [← h2]; simp
  have h4 : (x.t.1, x.i, x.d) ∈ Ex.pre e 1 := by rw [← Px.pre_fst e [] 1]; exact List.mem_map.2 ⟨x.key, h3, rfl⟩
  have h5 := Ex.node_size e 1 _ h4
  exact Nat.lt_of_lt_of_le (Ex.kids_size x.t.1) h5
theorem ann_none {t : Tp.T} (h : Tp.ann t = true) : Tp.none t = false := by
  cases t with
  | mk k n r =>
    unfold Tp.ann at h
    rw [Bool.and_eq_true] at h
    have h1 := h.1
    simp only [Tp.right, Bool.and_eq_true, Tp.nodeRight, decide_eq_true_eq] at h1
    rw [Bool.eq_false_iff]
    intro hn
    simp only [Tp.none, Bool.and_eq_true, decide_eq_true_eq] at hn
    have hk : k = 0 := hn.1.1
    subst hk
    have := h1.1.1.1.1
    simp [Tp.arity] at this
theorem all_ann_take {l : List Tp.T} {i : Nat} (h : i < l.length) : (l.take (i + 1)).all Tp.ann = ((l.take i).all Tp.ann && Tp.ann l[i]) := by
  rw [List.take_succ_eq_append_getElem h, List.all_append]; simp
theorem all_ann_not {l : List Tp.T} {i : Nat} (h : i < l.length) (hf : Tp.ann l[i] = false) : l.all Tp.ann = false := by
  rw [Bool.eq_false_iff]
  intro ht
  rw [List.all_eq_true] at ht
  have := ht l[i] (List.getElem_mem h)
  rw [hf] at this; cases this
set_option maxRecDepth 100000 in
set_option maxHeartbeats 4000000 in
theorem with_any (e : E) (s : Leads) (l : List Tp.T) (la : Option Addr) (lc : Nat) (w : World) (hf : Ex.FineAll e) (hlf : l.length ≤ 10000 ∧ ∀ t ∈ l, Tp.size t ≤ 10000) (h : ExAt (LT w.heap.size) w e s) (hl : SlAt (LT w.heap.size) w l la lc) :
    Calls Tryz.prog 33 #[ev e s, .slice la l.length lc] w fun r w' => (∃ s', r = .returned (.tuple #[ev (withOf e l).1 s', .int .i64 (withOf e l).2]) ∧ ExAt (LT w'.heap.size) w' (withOf e l).1 s') ∧ Below w.heap.size w w' := by
  have HCK := Lib.hid (fun w1 h => check_anyE e s w1 hf h)
  have HAN := Lib.hid (fun w1 h => anns_any e s w1 hf h)
  have H30 := Lib.hid (fun b w => nodesE_any (.pointer (some ⟨b, 0, none⟩)) (.func (.func 51) #[] #[]) ⟨_, rfl⟩ ⟨_, rfl⟩ w)
  have H31 := Lib.hid (fun b w => annotations_any (.pointer (some ⟨b, 0, none⟩)) ⟨_, rfl⟩ w)
  refine callsIn_wide (n := 9) |>.1 ?_
  have HE := Lib.hid h; have HL := Lib.hid hl; have HLF := Lib.hid hlf
  clear h hl hlf
  obtain ⟨m, hm⟩ : ∃ m, l.length = m := ⟨_, rfl⟩
  have hm2 : (m : Int) ≤ 10000 := by have := HLF.out.1; omega
  have HM := Lib.hid hm
  rw [hm]
  clear hm
  obtain ⟨x0, x1, x2, x3, x4, x5, x6, x7, x8, x9, x10, x11, x12, x13, x14, x15, hc⟩ : ∃ x0 x1 x2 x3 x4 x5 x6 x7 x8 x9 x10 x11 x12 x13 x14 x15, evCells e s = [x0, x1, x2, x3, x4, x5, x6, x7, x8, x9, x10, x11, x12, x13, x14, x15] := ⟨_, _, _, _, _, _, _, _, _, _, _, _, _, _, _, _, rfl⟩
  have hbox : ∀ w, (Instr.box 30 (.agg #[x0, x1, x2, x3, x4, x5, x6, x7, x8, x9, x10, x11, x12, x13, x14, x15])).run Tryz.prog w = .ok (.pointer (some ⟨w.heap.size, 0, none⟩)) (w.alloc (.cells #[x0, x1, x2, x3, x4, x5, x6, x7, x8, x9, x10, x11, x12, x13, x14, x15] 30)) := by
    intro w
    have : ∀ w, (Instr.box 30 (.agg (evCells e s).toArray)).run Tryz.prog w = .ok (.pointer (some ⟨w.heap.size, 0, none⟩)) (w.alloc (.cells (evCells e s).toArray 30)) := fun w => rfl
    rw [hc] at this
    exact this w
  have hev : ev e s = .agg #[x0, x1, x2, x3, x4, x5, x6, x7, x8, x9, x10, x11, x12, x13, x14, x15] := by unfold ev; rw [hc]
  rw [hev] at HCK HAN ⊢
  have HC := Lib.hid hc
  clear hc hev
  refine callsIn_of_wp_marks Tryz.func33 rfl trivial ?_ rfl
  simp only [Tryz.ntmps33, List.size_toArray, List.length_cons, List.length_nil, Nat.reduceAdd, Nat.reduceSub, Array.replicate_succ, Array.replicate_zero, List.push_toArray, List.append_toArray, List.nil_append, List.cons_append]
  gi_upto_region 1 with fail
  obtain ⟨W3, hW3⟩ : ∃ W3, [Obj.cells #[x0, x1, x2, x3, x4, x5, x6, x7, x8, x9, x10, x11, x12, x13, x14, x15] 30, .cells #[.slice la m lc] 24, .cells #[.int .i64 0, .int .i64 0, .int .i64 0, .string ⟨#[]⟩, .string ⟨#[]⟩, .int .i64 0, .string ⟨#[]⟩, .int .i64 0, .int .i64 0, .int .i64 0, .slice none 0 0, .int .i64 0, .int .i64 0, .slice none 0 0, .slice none 0 0, .slice none 0 0] 30].foldl World.alloc w = W3 := ⟨_, rfl⟩
  rw [show ((w.alloc (.cells #[x0, x1, x2, x3, x4, x5, x6, x7, x8, x9, x10, x11, x12, x13, x14, x15] 30)).alloc (.cells #[.slice la m lc] 24)).alloc (.cells #[.int .i64 0, .int .i64 0, .int .i64 0, .string ⟨#[]⟩, .string ⟨#[]⟩, .int .i64 0, .string ⟨#[]⟩, .int .i64 0, .int .i64 0, .int .i64 0, .slice none 0 0, .int .i64 0, .int .i64 0, .slice none 0 0, .slice none 0 0, .slice none 0 0] 30) = W3 from hW3]
  have hs3 : W3.heap.size = w.heap.size + 3 := by rw [← hW3]; exact allocs_size _ _
  have hb3 : Below w.heap.size w W3 := by rw [← hW3]; exact allocs_below _ _ (Nat.le_refl _)
  have hx0 : W3.heap[w.heap.size]? = some (.cells #[x0, x1, x2, x3, x4, x5, x6, x7, x8, x9, x10, x11, x12, x13, x14, x15] 30) := by rw [← hW3]; exact allocs_get _ w 0 _ rfl
  have hx1 : W3.heap[w.heap.size + 1]? = some (.cells #[.slice la m lc] 24) := by rw [← hW3]; exact allocs_get _ w 1 _ rfl
  have hx2 : W3.heap[w.heap.size + 1 + 1]? = some (.cells #[.int .i64 0, .int .i64 0, .int .i64 0, .string ⟨#[]⟩, .string ⟨#[]⟩, .int .i64 0, .string ⟨#[]⟩, .int .i64 0, .int .i64 0, .int .i64 0, .slice none 0 0, .int .i64 0, .int .i64 0, .slice none 0 0, .slice none 0 0, .slice none 0 0] 30) := by rw [← hW3]; exact allocs_get _ w 2 _ rfl
  have c0 : W3.cell? ⟨w.heap.size, 0, none⟩ = some x0 := cell_box (i := 0) hx0 rfl rfl
  have c1 : W3.cell? ⟨w.heap.size, 1, none⟩ = some x1 := cell_box (i := 1) hx0 rfl rfl
  have c2 : W3.cell? ⟨w.heap.size, 2, none⟩ = some x2 := cell_box (i := 2) hx0 rfl rfl
  have c3 : W3.cell? ⟨w.heap.size, 3, none⟩ = some x3 := cell_box (i := 3) hx0 rfl rfl
  have c4 : W3.cell? ⟨w.heap.size, 4, none⟩ = some x4 := cell_box (i := 4) hx0 rfl rfl
  have c5 : W3.cell? ⟨w.heap.size, 5, none⟩ = some x5 := cell_box (i := 5) hx0 rfl rfl
  have c6 : W3.cell? ⟨w.heap.size, 6, none⟩ = some x6 := cell_box (i := 6) hx0 rfl rfl
  have c7 : W3.cell? ⟨w.heap.size, 7, none⟩ = some x7 := cell_box (i := 7) hx0 rfl rfl
  have c8 : W3.cell? ⟨w.heap.size, 8, none⟩ = some x8 := cell_box (i := 8) hx0 rfl rfl
  have c9 : W3.cell? ⟨w.heap.size, 9, none⟩ = some x9 := cell_box (i := 9) hx0 rfl rfl
  have c10 : W3.cell? ⟨w.heap.size, 10, none⟩ = some x10 := cell_box (i := 10) hx0 rfl rfl
  have c11 : W3.cell? ⟨w.heap.size, 11, none⟩ = some x11 := cell_box (i := 11) hx0 rfl rfl
  have c12 : W3.cell? ⟨w.heap.size, 12, none⟩ = some x12 := cell_box (i := 12) hx0 rfl rfl
  have c13 : W3.cell? ⟨w.heap.size, 13, none⟩ = some x13 := cell_box (i := 13) hx0 rfl rfl
  have c14 : W3.cell? ⟨w.heap.size, 14, none⟩ = some x14 := cell_box (i := 14) hx0 rfl rfl
  have c15 : W3.cell? ⟨w.heap.size, 15, none⟩ = some x15 := cell_box (i := 15) hx0 rfl rfl
  have HX0 := Lib.hid hx0; have HX1 := Lib.hid hx1; have HX2 := Lib.hid hx2; have HB3 := Lib.hid hb3; have HS3 := Lib.hid hs3
  clear hx0 hx1 hx2 hb3 hs3 hW3
  cases hr : Ex.right e with
  | false =>
    rw [hr] at HCK
    gi_upto_region 2 with (refine ⟨trivial, ?_⟩; gi_at_call 16; refine (callsIn_wide.2 (HCK.out _ ?_)).mono ?_; (· exact HE.out.mono (fun b o h => HB3.out.cell (p := ⟨b, o, none⟩) h) (fun b h => Nat.lt_of_lt_of_le h HB3.out.size)); rintro e w1 ⟨rfl, hb1⟩; have hr1 := (hb1.block (w.heap.size + 1 + 1) (by have := HS3.out; omega)).trans HX2.out; have HR1 := Lib.hid hr1; have HB1 := Lib.hid hb1; clear hr1 hb1; clear c0 c1 c2 c3 c4 c5 c6 c7 c8 c9 c10 c11 c12 c13 c14 c15)
    gi_step
    gi_step
    gi_step
    go_simp
    gi_step
    refine wpListIn_store_row rfl 30 (.tmp 4) (.tmp 14) rfl (w.heap.size + 1 + 1) _ _ 30 rfl rfl HR1.out (by kernel_rfl) rfl (by kernel_rfl) ?_
    rw [setRow_self _ _ _ _ _ HR1.out]
    gi_wp2
    exact with_bad HR1.out rfl rfl (by unfold withOf; rw [hr]; rfl) (HB3.out.trans (HB1.out.mono HB3.out.size))
  | true =>
    rw [hr] at HCK HAN
    gi_upto_region 3 with (refine ⟨trivial, ?_⟩; gi_at_call 16; refine (callsIn_wide.2 (HCK.out _ ?_)).mono ?_; (· exact HE.out.mono (fun b o h => HB3.out.cell (p := ⟨b, o, none⟩) h) (fun b h => Nat.lt_of_lt_of_le h HB3.out.size)); rintro e w1 ⟨rfl, hb1⟩; have hr1 := (hb1.block (w.heap.size + 1) (by have := HS3.out; omega)).trans HX1.out; have d0 : w1.cell? ⟨w.heap.size + 1, 0, none⟩ = some (.slice la m lc) := cell_box hr1 rfl rfl; have HB1 := Lib.hid hb1; clear hr1 hb1; clear c0 c1 c2 c3 c4 c5 c6 c7 c8 c9 c10 c11 c12 c13 c14 c15)
    gi_upto_region 4 with fail
    have hb1 : Below (w.heap.size + 3) W3 w1 := by rw [← HS3.out]; exact HB1.out
    have HB1 := Lib.hid hb1
    clear hb1 d0
    gi_loopg [17] m (fun gk v wr => ∃ i : Nat, v = .int .i64 (i : Int) ∧ i ≤ m ∧ (l.take i).all Tp.ann = true ∧ Below (w.heap.size + 3) W3 wr ∧ gk = m - i)
    case atStart => exact ⟨0, rfl, Nat.zero_le _, by simp, HB1.out, rfl⟩
    case round =>
      obtain ⟨i, rfl, hi, hall, hb, rfl⟩ := hrel
      have HB := Lib.hid hb; have HALL := Lib.hid hall
      have hbw : Below w.heap.size w wr := HB3.out.trans (hb.mono (by omega))
      have HBW := Lib.hid hbw
      clear hb hall hbw
      by_cases hlt : i < m
      · have hil : i < l.length := by rw [HM.out]; exact hlt
        have hl2 := HL.out.below HBW.out (fun _ h => h) (fun b h => Nat.lt_of_lt_of_le h HBW.out.size) (G' := LT wr.heap.size)
        obtain ⟨lb, lo, rfl, hbn, hN⟩ := hl2.2.2.first (by omega)
        obtain ⟨xa, xc, hat, e0, e1, e2⟩ := (hN i hil).ty
        have hp := HLF.out.2 l[i] (List.getElem_mem hil)
        have hcall := fun ob => annotation_any l[i] xa xc (wr.alloc ob) hp (hat.below ((Below.refl wr.heap.size wr).alloc (Nat.le_refl _) _) (fun _ h => h) (fun b h => Nat.lt_of_lt_of_le h (by simp)))
        unfold tv at hcall
        have hat2 := all_ann_take hil
        have hnot := all_ann_not hil
        rw [HALL.out, Bool.true_and] at hat2
        obtain ⟨q, hq⟩ : ∃ q, l[i] = q := ⟨_, rfl⟩
        rw [hq] at hcall hat2 hnot e0 e1 e2
        obtain ⟨bq, hbq⟩ : ∃ b, Tp.ann q = b := ⟨_, rfl⟩
        rw [hbq] at hcall hat2 hnot
        have HCL := Lib.hid hcall; have HAT := Lib.hid hat2; have HNOT := Lib.hid hnot
        have hsz3 : w.heap.size + 3 ≤ wr.heap.size := by have := HB.out.size; have := HS3.out; omega
        have HSZ := Lib.hid hsz3
        clear hcall hat2 hnot hat hp hN hl2 hq hbq hsz3
        cases bq with
        | false =>
          gi_upto_region 7 with (refine ⟨trivial, ?_⟩; gi_at_call 74; refine (callsIn_wide.2 (HCL.out _)).mono ?_; rintro e w2 ⟨rfl, hb2⟩; have hb3 : Below (w.heap.size + 3) W3 w2 := (HB.out.alloc HSZ.out _).trans (hb2.mono (by have := HSZ.out; simp; omega)); have HB4 := Lib.hid hb3; clear hb2 hb3)
          have hr1 := (HB4.out.block (w.heap.size + 1 + 1) (by omega)).trans HX2.out
          have HR1 := Lib.hid hr1
          clear hr1
          gi_step
          gi_step
          gi_step
          go_simp
          gi_step
          refine wpListIn_store_row rfl 30 (.tmp 4) (.tmp 24) rfl (w.heap.size + 1 + 1) _ _ 30 rfl rfl HR1.out (by kernel_rfl) rfl (by kernel_rfl) ?_
          rw [setRow_self _ _ _ _ _ HR1.out]
          gi_wp2
          exact with_bad HR1.out rfl rfl (by unfold withOf; rw [hr, HNOT.out (by simp)]; rfl) (HB3.out.trans (HB4.out.mono (by omega)))
        | true =>
          gi_wp2_with (refine ⟨trivial, ?_⟩; gi_at_call 74; refine (callsIn_wide.2 (HCL.out _)).mono ?_; rintro e w2 ⟨rfl, hb2⟩; have hb3 : Below (w.heap.size + 3) W3 w2 := (HB.out.alloc HSZ.out _).trans (hb2.mono (by have := HSZ.out; simp; omega)); have HB4 := Lib.hid hb3; clear hb2 hb3)
          gi_roundg (m - (i + 1))
          case measure => omega
          case rel => exact ⟨i + 1, by first | rfl | go_num, by omega, HAT.out, HB4.out, rfl⟩
      · obtain rfl : i = m := by omega
        have hall := HALL.out
        rw [List.take_of_length_le (by rw [HM.out]; exact Nat.le_refl _)] at hall
        have HALL2 := Lib.hid hall
        clear hall
        gi_upto_region 9 with fail
        obtain ⟨K, hK⟩ : ∃ K, (Ex.anns e).length = K := ⟨_, rfl⟩
        have hm : (Tryz.prog).follows .mixedOrders = true := by kernel_rfl
        have hr0 := (HB.out.block w.heap.size (by omega)).trans HX0.out
        have hr1 := (HB.out.block (w.heap.size + 1) (by omega)).trans HX1.out
        have d0 : wr.cell? ⟨w.heap.size + 1, 0, none⟩ = some (.slice la i lc) := cell_box hr1 rfl rfl
        have c0 : wr.cell? ⟨w.heap.size, 0, none⟩ = some x0 := cell_box (i := 0) hr0 rfl rfl
        have c1 : wr.cell? ⟨w.heap.size, 1, none⟩ = some x1 := cell_box (i := 1) hr0 rfl rfl
        have c2 : wr.cell? ⟨w.heap.size, 2, none⟩ = some x2 := cell_box (i := 2) hr0 rfl rfl
        have c3 : wr.cell? ⟨w.heap.size, 3, none⟩ = some x3 := cell_box (i := 3) hr0 rfl rfl
        have c4 : wr.cell? ⟨w.heap.size, 4, none⟩ = some x4 := cell_box (i := 4) hr0 rfl rfl
        have c5 : wr.cell? ⟨w.heap.size, 5, none⟩ = some x5 := cell_box (i := 5) hr0 rfl rfl
        have c6 : wr.cell? ⟨w.heap.size, 6, none⟩ = some x6 := cell_box (i := 6) hr0 rfl rfl
        have c7 : wr.cell? ⟨w.heap.size, 7, none⟩ = some x7 := cell_box (i := 7) hr0 rfl rfl
        have c8 : wr.cell? ⟨w.heap.size, 8, none⟩ = some x8 := cell_box (i := 8) hr0 rfl rfl
        have c9 : wr.cell? ⟨w.heap.size, 9, none⟩ = some x9 := cell_box (i := 9) hr0 rfl rfl
        have c10 : wr.cell? ⟨w.heap.size, 10, none⟩ = some x10 := cell_box (i := 10) hr0 rfl rfl
        have c11 : wr.cell? ⟨w.heap.size, 11, none⟩ = some x11 := cell_box (i := 11) hr0 rfl rfl
        have c12 : wr.cell? ⟨w.heap.size, 12, none⟩ = some x12 := cell_box (i := 12) hr0 rfl rfl
        have c13 : wr.cell? ⟨w.heap.size, 13, none⟩ = some x13 := cell_box (i := 13) hr0 rfl rfl
        have c14 : wr.cell? ⟨w.heap.size, 14, none⟩ = some x14 := cell_box (i := 14) hr0 rfl rfl
        have c15 : wr.cell? ⟨w.heap.size, 15, none⟩ = some x15 := cell_box (i := 15) hr0 rfl rfl
        have hcall : Calls Tryz.prog 29 #[.agg #[x0, x1, x2, x3, x4, x5, x6, x7, x8, x9, x10, x11, x12, x13, x14, x15]] wr.drew fun r w9 => ∃ ra rc, r = .returned (.slice ra K rc) ∧ Below wr.heap.size wr w9 := by
          refine (HAN.out wr.drew (HE.out.mono (fun b o h => HBW.out.cell (p := ⟨b, o, none⟩) h) (fun b h => Nat.lt_of_lt_of_le h HBW.out.size))).mono ?_
          rintro r w9 ⟨v9, rfl, ⟨ls9, hl1, hl2, hrow⟩, hb9⟩
          obtain ⟨ra, rc, hv⟩ := own_shapeT hrow
          rw [if_pos trivial, hK] at hv
          exact ⟨ra, rc, by rw [hv], ⟨hb9.os, hb9.tape, hb9.output, hb9.size, hb9.block⟩⟩
        have hsz : w.heap.size + 3 ≤ wr.heap.size := by have := HB.out.size; have := HS3.out; omega
        have HR0 := Lib.hid hr0; have HR1 := Lib.hid hr1; have HCL := Lib.hid hcall; have HSZ := Lib.hid hsz; have HK := Lib.hid hK
        clear hr0 hr1 hcall hsz hK
        refine wpIn_mid (fun a' w' => ∃ ra rc, a' = { tmps := #[.agg #[x0, x1, x2, x3, x4, x5, x6, x7, x8, x9, x10, x11, x12, x13, x14, x15], .slice la i lc, .pointer (some ⟨w.heap.size, 0, none⟩), .pointer (some ⟨w.heap.size + 1, 0, none⟩), .pointer (some ⟨w.heap.size + 1 + 1, 0, none⟩), u5, undef, u7, undef, undef, undef, .agg #[x0, x1, x2, x3, x4, x5, x6, x7, x8, x9, x10, x11, x12, x13, x14, x15], .int .i64 (errOf true), .bool (errOf true != 0), undef, .slice la i lc, .int .i64 (i : Int), .int .i64 (i : Int), .bool false, u19, u20, u21, u22, u23, u24, u25, .slice la i lc, .int .i64 (i : Int), .agg #[x0, x1, x2, x3, x4, x5, x6, x7, x8, x9, x10, x11, x12, x13, x14, x15], .slice ra K rc, .int .i64 (K : Int), .bool ((i : Int) != (K : Int)), undef, undef, undef, undef, undef, undef, undef, undef, undef, undef, undef, undef, undef, undef, undef, undef, undef, undef, undef, undef, undef, undef, undef], defers := [] } ∧ Below (w.heap.size + 3) W3 w') ?first ?rest
        case first =>
          gi_region_with_o (refine ⟨trivial, ?_⟩; gi_at_call 29; refine (callsIn_wide.2 HCL.out).mono ?_; rintro _ w9 ⟨ra, rc, rfl, hb9⟩; have hb9' : Below (w.heap.size + 3) W3 w9 := HB.out.trans (hb9.mono HSZ.out); have hr0 := (hb9.block w.heap.size (by have := HSZ.out; show w.heap.size < wr.heap.size; omega)).trans HR0.out; have hr1 := (hb9.block (w.heap.size + 1) (by have := HSZ.out; show w.heap.size + 1 < wr.heap.size; omega)).trans HR1.out; have d9 : w9.cell? ⟨w.heap.size + 1, 0, none⟩ = some (.slice la i lc) := cell_box hr1 rfl rfl; have e0 : w9.cell? ⟨w.heap.size, 0, none⟩ = some x0 := cell_box (i := 0) hr0 rfl rfl; have e1 : w9.cell? ⟨w.heap.size, 1, none⟩ = some x1 := cell_box (i := 1) hr0 rfl rfl; have e2 : w9.cell? ⟨w.heap.size, 2, none⟩ = some x2 := cell_box (i := 2) hr0 rfl rfl; have e3 : w9.cell? ⟨w.heap.size, 3, none⟩ = some x3 := cell_box (i := 3) hr0 rfl rfl; have e4 : w9.cell? ⟨w.heap.size, 4, none⟩ = some x4 := cell_box (i := 4) hr0 rfl rfl; have e5 : w9.cell? ⟨w.heap.size, 5, none⟩ = some x5 := cell_box (i := 5) hr0 rfl rfl; have e6 : w9.cell? ⟨w.heap.size, 6, none⟩ = some x6 := cell_box (i := 6) hr0 rfl rfl; have e7 : w9.cell? ⟨w.heap.size, 7, none⟩ = some x7 := cell_box (i := 7) hr0 rfl rfl; have e8 : w9.cell? ⟨w.heap.size, 8, none⟩ = some x8 := cell_box (i := 8) hr0 rfl rfl; have e9 : w9.cell? ⟨w.heap.size, 9, none⟩ = some x9 := cell_box (i := 9) hr0 rfl rfl; have e10 : w9.cell? ⟨w.heap.size, 10, none⟩ = some x10 := cell_box (i := 10) hr0 rfl rfl; have e11 : w9.cell? ⟨w.heap.size, 11, none⟩ = some x11 := cell_box (i := 11) hr0 rfl rfl; have e12 : w9.cell? ⟨w.heap.size, 12, none⟩ = some x12 := cell_box (i := 12) hr0 rfl rfl; have e13 : w9.cell? ⟨w.heap.size, 13, none⟩ = some x13 := cell_box (i := 13) hr0 rfl rfl; have e14 : w9.cell? ⟨w.heap.size, 14, none⟩ = some x14 := cell_box (i := 14) hr0 rfl rfl; have e15 : w9.cell? ⟨w.heap.size, 15, none⟩ = some x15 := cell_box (i := 15) hr0 rfl rfl; have HB9 := Lib.hid hb9'; clear hb9 hb9' hr0 hr1)
          all_goals exact ⟨_, _, rfl, HB9.out⟩
        case rest =>
          rintro _ w9 ⟨ra, rc, rfl, hb9⟩
          dsimp only
          have hr2 := (hb9.block (w.heap.size + 1 + 1) (by omega)).trans HX2.out
          have hr0 := (hb9.block w.heap.size (by omega)).trans HX0.out
          have hr1 := (hb9.block (w.heap.size + 1) (by omega)).trans HX1.out
          have hsz9 : w.heap.size + 3 ≤ w9.heap.size := by have := hb9.size; have := HS3.out; omega
          have HR0 := Lib.hid hr0; have HR1 := Lib.hid hr1; have HR2 := Lib.hid hr2; have HB9 := Lib.hid hb9; have HSZ9 := Lib.hid hsz9
          clear hr0 hr1 hr2 hb9 hsz9
          by_cases hKi : i = K
          case neg =>
            have g : ((i : Int) != (K : Int)) = true := by simp; omega
            gi_upto_region 10 with fail
            gi_step
            gi_step
            gi_step
            go_simp
            gi_step
            refine wpListIn_store_row rfl 30 (.tmp 4) (.tmp 32) rfl (w.heap.size + 1 + 1) _ _ 30 rfl rfl HR2.out (by kernel_rfl) rfl (by kernel_rfl) ?_
            rw [setRow_self _ _ _ _ _ HR2.out]
            gi_wp2
            exact with_bad HR2.out rfl rfl (by unfold withOf; rw [hr, HALL2.out, HK.out, HM.out]; simp [hKi]) (HB3.out.trans (HB9.out.mono (by omega)))
          case pos =>
            have g : ((i : Int) != (K : Int)) = false := by simp [hKi]
            subst hKi
            gi_wp2_with (refine ⟨trivial, ?_⟩; gi_at_call 50; refine (callsIn_wide.2 (H30.out _ _)).mono ?_; rintro e w' ⟨rfl, rfl⟩)
            obtain ⟨W11, hW11⟩ : ∃ W11, [Obj.cells #[.pointer (some ⟨w.heap.size, 0, none⟩)] 68, .cells #[.func (.func 51) #[] #[]] 114].foldl World.alloc w9 = W11 := ⟨_, rfl⟩
            try rw [show (w9.alloc (.cells #[.pointer (some ⟨w.heap.size, 0, none⟩)] 68)).alloc (.cells #[.func (.func 51) #[] #[]] 114) = W11 from hW11]
            have hs11 : W11.heap.size = w9.heap.size + 2 := by rw [← hW11]; exact allocs_size _ _
            have hb11 : Below w9.heap.size w9 W11 := by rw [← hW11]; exact allocs_below _ _ (Nat.le_refl _)
            have hy0 : W11.heap[w9.heap.size]? = some (.cells #[.pointer (some ⟨w.heap.size, 0, none⟩)] 68) := by rw [← hW11]; exact allocs_get _ w9 0 _ rfl
            have hy1 : W11.heap[w9.heap.size + 1]? = some (.cells #[.func (.func 51) #[] #[]] 114) := by rw [← hW11]; exact allocs_get _ w9 1 _ rfl
            clear hW11
            have hlow : Below w.heap.size w W11 := (HB3.out.trans (HB9.out.mono (by omega))).trans (hb11.mono (by have := HSZ9.out; omega))
            have hk0 := (hb11.block w.heap.size (by have := HSZ9.out; omega)).trans HR0.out
            have hk1 := (hb11.block (w.heap.size + 1) (by have := HSZ9.out; omega)).trans HR1.out
            have hk2 := (hb11.block (w.heap.size + 1 + 1) (by have := HSZ9.out; omega)).trans HR2.out
            have hcs : ECells W11 w.heap.size 0 e s := fun j v hv => by
              rw [HC.out] at hv
              rw [Nat.zero_add]
              exact cell_box hk0 rfl (by simpa using hv)
            have hszw : w.heap.size + 5 ≤ W11.heap.size := by have := HSZ9.out; omega
            refine wpIn_range_at (gf := 86) (lb := #[.pointer (some ⟨w9.heap.size, 0, none⟩), .pointer (some ⟨w9.heap.size + 1, 0, none⟩)]) rfl (enters_of Tryz.func86 (by kernel_rfl) rfl)
              (nodesE_seq Px.shape (e, []) (Nat.le_trans (Px.vk_len (e, [])) (by have := hf.1; show 2 * Ex.size e ≤ 1000000; omega)) (fun k => w.heap.size ≤ k) w9.heap.size (w9.heap.size + 1) (some ⟨w.heap.size, 0, none⟩) W11 (fun k h => by omega) (cell_box hy0 rfl rfl) (cell_box hy1 rfl rfl))
              (fun _ _ _ _ hK h i => NextP.mono hK (h i)) (Below.refl _ _) (fun k h => by omega) (fun _ => rfl)
              (fun M pre V => CopI w.heap.size w.heap.size W11.heap.size w e M pre V ∧ (W11.heap.size ≤ V.heap.size ∧ Turns (fun k => k = w.heap.size ∨ W11.heap.size ≤ k) W11 V))
              (fun M pre x V => OkC w.heap.size e M pre x V) (fun _ _ _ _ => False)
              (fun x a' _ _ => a' = { tmps := #[.agg #[x0, x1, x2, x3, x4, x5, x6, x7, x8, x9, x10, x11, x12, x13, x14, x15], .slice la i lc, .pointer (some ⟨w.heap.size, 0, none⟩), .pointer (some ⟨w.heap.size + 1, 0, none⟩), .pointer (some ⟨w.heap.size + 1 + 1, 0, none⟩), u5, undef, u7, .pointer x.p, undef, undef, .agg #[x0, x1, x2, x3, x4, x5, x6, x7, x8, x9, x10, x11, x12, x13, x14, x15], .int .i64 (errOf true), .bool (errOf true != 0), undef, .slice la i lc, .int .i64 (i : Int), .int .i64 (i : Int), .bool false, u19, u20, u21, u22, u23, u24, u25, .slice la i lc, .int .i64 (i : Int), .agg #[x0, x1, x2, x3, x4, x5, x6, x7, x8, x9, x10, x11, x12, x13, x14, x15], .slice ra i rc, .int .i64 (i : Int), .bool false, undef, .func (.func 86) #[] #[.pointer (some ⟨w9.heap.size, 0, none⟩), .pointer (some ⟨w9.heap.size + 1, 0, none⟩)], .pointer x.p, .int .i64 (x.d : Int), undef, undef, undef, undef, undef, undef, undef, undef, undef, undef, undef, undef, undef, undef, undef, undef, undef, undef, undef], defers := [] })
              (fun s => Ab.and (ab_copI (by omega) s) (Ab.turns W11 (fun k hk => .inr hk))) (fun _ _ => Ab.pure _ _) (fun _ _ => Ab.pure _ _)
              ⟨⟨fun _ => 0, Cop.start ⟨Nat.le_refl _, by omega, Nat.le_refl _⟩ hlow HE.out hcs (fun o => by simp [World.frozen?, hk0]), fun _ _ h => h⟩, Nat.le_refl _, Turns.refl _ _⟩ (fun s x => ab_okC _ s x) (.inl ⟨rfl, rfl⟩) ?next ?assign ?body ?done ?stop
            case next =>
              rintro M pre y V ⟨h1, _⟩ _ _ hy
              exact next_cop h1 hy
            case assign =>
              intro l' M pre x V K hi hM hok _ hK
              clear hy0 hy1 hk0 hk1 hk2 hi hcs
              gi_wp2
              exact hK _ _ (Turns.refl _ _) (by simp [Vi.enc2, errOf])
            case body =>
              rintro l' M pre x a' V ⟨⟨G, hC, hu⟩, hle2, hT⟩ hM hle hok hokc rfl
              obtain ⟨hkn, hp⟩ := ok_plc hC (hokc trivial)
              have hnp := fresh_path hok
              obtain ⟨ka, kc, h15, hks⟩ := raw_kids hC hkn hnp
              have hkl := px_kids hok
              have hcall := clone_kids x.t.1.kids ka kc hks hC.low (by have := hf.1; omega)
              have hub := used_of (B0 := w.heap.size) (G := G) hkn
              have hbl := (hC.lt hub).2
              have hstep := fun (V1 : World) (hb1 : Below V.heap.size V V1) a cap hr => hC.step hkn hnp hp (V1 := V1) hb1 (a := a) (cap := cap) hr
              have hnM := hu _ hub
              have hpos : (plc w.heap.size G x.t.2).1 = w.heap.size ∨ W11.heap.size ≤ (plc w.heap.size G x.t.2).1 := by
                rcases hub with h | ⟨y, hy, hne, h⟩
                · exact .inl h
                · rw [h]; exact .inr (hC.fresh y hy hne).1
              have hn0 := (hC.lt hub).1
              have hfz := hC.fz _ hub
              rw [hp]
              obtain ⟨n, hn⟩ : ∃ n, x.t.1.kids.length = n := ⟨_, rfl⟩
              obtain ⟨bx, hbx⟩ : ∃ b, (plc w.heap.size G x.t.2).1 = b := ⟨_, rfl⟩
              obtain ⟨ox, hox⟩ : ∃ o, (plc w.heap.size G x.t.2).2 = o := ⟨_, rfl⟩
              rw [hn] at hcall h15 hstep
              rw [hbx] at h15 hbl hstep hnM hn0 hfz hpos ⊢
              rw [hox] at h15 hstep ⊢
              have HST := Lib.hid hstep; have HCL := Lib.hid hcall; have HBL := Lib.hid hbl; have HNM := Lib.hid hnM; have HN0 := Lib.hid hn0; have HT := Lib.hid hT; have HLE := Lib.hid hle2; have HU := Lib.hid hu; have HMM := Lib.hid hM; have HFZ := Lib.hid hfz; have HCL2 := Lib.hid (fun k hk => (hC.lt (k := k) hk).2); have H15 := Lib.hid h15; have HPOS := Lib.hid hpos
              clear hstep hcall hbl hnM hn0 hT hle2 hu hM hle hok hokc hp hnp hks hkl hub hkn hC hn hbx hox hy0 hy1 hk0 hk1 hk2 hcs hlow hb11 hs11 hszw hfz hpos
              gi_wp2_with (refine ⟨trivial, ?_⟩; gi_at_call 52; refine (CallsIn.inRound l' (callsIn_wide.2 HCL.out)).mono ?_; rintro _ V1 ⟨⟨ka', kc', rfl, hkr⟩, hb1⟩; have g15 := (hb1.cell (p := ⟨bx, ox + 15, none⟩) HBL.out).trans H15.out; have gfz : V1.frozen? ⟨bx, ox + 15, none⟩ = false := by { rw [← HFZ.out (ox + 15)]; unfold World.frozen?; rw [hb1.block bx HBL.out] }; have HKR := Lib.hid hkr; have HB1 := Lib.hid hb1; clear hkr hb1)
              obtain ⟨G', hC', hu'⟩ := HST.out V1 HB1.out _ _ HKR.out
              have hT1 : ∀ X : Nat → Prop, Turns X V V1 := fun X => ⟨HB1.out.os, HB1.out.tape, HB1.out.output, HB1.out.size, fun k hk _ => HB1.out.block k hk⟩
              refine ⟨(hT1 _).trans (Turns.setCell _ _ _ ⟨HN0.out, HNM.out⟩), ⟨G', hC', fun k hk hm => ?_⟩, by simpa using Nat.le_trans HLE.out HB1.out.size, HT.out.trans ((hT1 _).trans (Turns.setCell _ _ _ HPOS.out))⟩
              rcases hu' k hk with h | ⟨h, _⟩
              · exact HU.out k h hm
              · have := (HMM.out k hm).2; omega
            case done =>
              rintro D M xs V hD hMD hM hS ⟨⟨G, hC, hu⟩, hle2, hT⟩ hK
              have hxk := all_keys hS
              have hk2V := hT.heap hk2 (fun h => by rcases h with h | h <;> omega)
              have hk1V := hT.heap hk1 (fun h => by rcases h with h | h <;> omega)
              have hmk : Marked (w.heap.size + 3) [D] V := (Marked.nil _ V).cons (w := W11) hK (by omega) hD (fun k h => by cases h)
              have HXK := Lib.hid hxk; have HC' := Lib.hid hC; have HUD := Lib.hid (show ¬ Used w.heap.size G xs D from fun h => hu D h hMD); have HK1 := Lib.hid hk1V; have HK2 := Lib.hid hk2V; have HMK := Lib.hid hmk; have HDM := Lib.hid (show D < V.heap.size from (hM D hMD).2)
              have HLE := Lib.hid hle2
              clear hy0 hy1 hk0 hk1 hk2 hcs hlow hb11 hs11 hS hxk hk2V hk1V hmk hT hu hM hK hC
              gi_wp2_with (refine ⟨trivial, ?_⟩; gi_at_call 72; refine (callsIn_wide.2 (H31.out _ _)).mono ?_; rintro _ w' ⟨rfl, rfl⟩)
              obtain ⟨W21, hW21⟩ : ∃ W21, [Obj.cells #[.int .i64 0] 3, .cells #[.pointer (some ⟨w.heap.size, 0, none⟩)] 68].foldl World.alloc V = W21 := ⟨_, rfl⟩
              try rw [show (V.alloc (.cells #[.int .i64 0] 3)).alloc (.cells #[.pointer (some ⟨w.heap.size, 0, none⟩)] 68) = W21 from hW21]
              have hs21 : W21.heap.size = V.heap.size + 2 := by rw [← hW21]; exact allocs_size _ _
              have hb21 : Below V.heap.size V W21 := by rw [← hW21]; exact allocs_below _ _ (Nat.le_refl _)
              have hz0 : W21.heap[V.heap.size]? = some (.cells #[.int .i64 0] 3) := by rw [← hW21]; exact allocs_get _ V 0 _ rfl
              have hz1 : W21.heap[V.heap.size + 1]? = some (.cells #[.pointer (some ⟨w.heap.size, 0, none⟩)] 68) := by rw [← hW21]; exact allocs_get _ V 1 _ rfl
              clear hW21
              have hC := HC'.out
              have hVw : w.heap.size + 5 ≤ V.heap.size := by have := HLE.out; omega
              have hnone : ∀ t ∈ l, Tp.none t = false := fun t ht => ann_none (List.all_eq_true.1 HALL2.out t ht)
              have hlen : l.length = (ak e []).length := by rw [ak_len, HM.out, HK.out]
              have hused : ∀ k, Used w.heap.size G xs k → k < V.heap.size := fun k hk => (hC.lt hk).2
              have husp : ∀ k, Used w.heap.size G xs k → k = w.heap.size ∨ W11.heap.size ≤ k := fun k hk => by
                rcases hk with h | ⟨y, hy, hne, h⟩
                · exact .inl h
                · rw [h]; exact .inr (hC.fresh y hy hne).1
              have HUSE := Lib.hid hused; have HUSP := Lib.hid husp; have HNONE := Lib.hid hnone; have HLEN := Lib.hid hlen; have HS21 := Lib.hid hs21; have HB21 := Lib.hid hb21; have HVW := Lib.hid hVw; have HS11 := Lib.hid hszw
              have hstart : Wrt w.heap.size w.heap.size w V G e l xs 0 W21 := Wrt.start hC (hC.low.trans (hb21.mono (by omega))) hb21.size (fun k hk => hb21.block k (hused k hk))
              refine wpIn_range_at (gf := 105) (lb := #[.pointer (some ⟨V.heap.size + 1, 0, none⟩)]) rfl (enters_of Tryz.func105 (by kernel_rfl) rfl)
                (annAll_seq (fun k => w.heap.size ≤ k) (V.heap.size + 1) V.heap.size (bld w.heap.size G e []) W21 (by rw [bld_size]; have := hf.1; omega) (by rw [bld_at]; exact cell_box hz1 rfl rfl) ((hC.all HXK.out).below hb21) hb21.size (fun k h => by omega))
                (fun _ _ _ _ _ h => h) (Below.refl _ _) (fun k h => by omega) (fun _ => rfl)
                (fun M pre U => (Wrt w.heap.size w.heap.size w V G e l xs pre.length U ∧ ∀ k, Used w.heap.size G xs k → ¬ M k) ∧ (U.heap[V.heap.size]? = some (.cells #[.int .i64 (pre.length : Int)] 3) ∧ ¬ M V.heap.size) ∧ (W21.heap.size ≤ U.heap.size ∧ Turns (fun k => (Used w.heap.size G xs k ∨ k = V.heap.size) ∨ W21.heap.size ≤ k) W21 U))
                (fun _ _ _ _ => True) (fun _ _ _ _ => False)
                (fun x a' _ _ => a' = { tmps := #[.agg #[x0, x1, x2, x3, x4, x5, x6, x7, x8, x9, x10, x11, x12, x13, x14, x15], .slice la i lc, .pointer (some ⟨w.heap.size, 0, none⟩), .pointer (some ⟨w.heap.size + 1, 0, none⟩), .pointer (some ⟨w.heap.size + 1 + 1, 0, none⟩), u5, undef, u7, undef, .pointer (some ⟨V.heap.size, 0, none⟩), .pointer x, .agg #[x0, x1, x2, x3, x4, x5, x6, x7, x8, x9, x10, x11, x12, x13, x14, x15], .int .i64 (errOf true), .bool (errOf true != 0), undef, .slice la i lc, .int .i64 (i : Int), .int .i64 (i : Int), .bool false, u19, u20, u21, u22, u23, u24, u25, .slice la i lc, .int .i64 (i : Int), .agg #[x0, x1, x2, x3, x4, x5, x6, x7, x8, x9, x10, x11, x12, x13, x14, x15], .slice ra i rc, .int .i64 (i : Int), .bool false, undef, .func (.func 86) #[] #[.pointer (some ⟨w9.heap.size, 0, none⟩), .pointer (some ⟨w9.heap.size + 1, 0, none⟩)], undef, undef, undef, undef, undef, undef, undef, undef, undef, undef, .func (.func 105) #[] #[.pointer (some ⟨V.heap.size + 1, 0, none⟩)], .pointer x, undef, undef, undef, undef, undef, undef, undef, undef, undef], defers := [] })
                (fun s => Ab.and (ab_wrt (by omega) hC HXK.out s.length) (Ab.and (Ab.block _ _ _) (Ab.turns W21 (fun k hk => .inr hk)))) (fun _ _ => Ab.pure _ _) (fun _ _ => Ab.pure _ _)
                ⟨⟨hstart, fun _ _ h => h⟩, ⟨hz0, fun h => h⟩, Nat.le_refl _, Turns.refl _ _⟩ (fun _ _ => Ab.pure _ _) trivial ?next2 ?assign2 ?body2 ?done2 ?stop2
              case next2 =>
                rintro M pre y U ⟨⟨hw, _⟩, _⟩ _ _ _
                exact hw.all hC HXK.out HNONE.out HLEN.out
              case assign2 =>
                intro l' M pre x U K hi hM hok _ hK
                clear hi hz0 hz1 hstart hC
                gi_wp2
                exact hK _ _ (Turns.refl _ _) (by simp [errOf])
              case body2 =>
                rintro l' M pre x a' U ⟨⟨hw, hu⟩, ⟨hnx, hnxM⟩, hle2, hT⟩ hM hle hok _ rfl
                obtain ⟨p, hp, rfl⟩ := next_key hok
                obtain ⟨j, hj⟩ : ∃ j, pre.length = j := ⟨_, rfl⟩
                rw [hj] at hw hnx hp
                have hjl : j < l.length := by rw [HLEN.out]; exact (List.getElem?_eq_some_iff.1 hp).1
                have hji : j < i := by rw [← HM.out]; exact hjl
                obtain ⟨lb, lo, rfl, hlb, hN⟩ := HL.out.2.2.first (by omega)
                obtain ⟨ta, tc, hty, t0, t1, t2⟩ := (hN j hjl).ty
                have hstep := hw.step hC HXK.out hp (List.getElem?_eq_getElem hjl) hty
                have hth := hw.there hC HXK.out hp
                have hub := used_key hC HXK.out (List.mem_of_getElem? hp)
                have hfz := hw.fz _ hub
                have hbl := hused _ hub
                have hn0 := (hC.lt hub).1
                have hnM := hu _ hub
                have s0 := (hw.low.cell (p := ⟨lb, lo + j * 3, none⟩) hlb).trans t0
                have s1 := (hw.low.cell (p := ⟨lb, lo + j * 3 + 1, none⟩) hlb).trans t1
                have s2 := (hw.low.cell (p := ⟨lb, lo + j * 3 + 2, none⟩) hlb).trans t2
                have h1V := (hb21.block (w.heap.size + 1) (by omega)).trans HK1.out
                have h1U := hT.heap h1V (fun h => by
                  rcases h with (h | h) | h
                  · rcases husp _ h with h | h <;> omega
                  · omega
                  · omega)
                have l0 : U.cell? ⟨w.heap.size + 1, 0, none⟩ = some (.slice (some ⟨lb, lo, none⟩) i lc) := cell_box h1U rfl rfl
                have n0 : U.cell? ⟨V.heap.size, 0, none⟩ = some (.int .i64 (j : Int)) := cell_box hnx rfl rfl
                have nf : U.frozen? ⟨V.heap.size, 0, none⟩ = false := Boxed.frozen hnx
                obtain ⟨t, ht⟩ : ∃ t, l[j] = t := ⟨_, rfl⟩
                rw [ht] at s0 s1 s2 hstep
                unfold plcA
                obtain ⟨bx, hbx⟩ : ∃ b, (plc w.heap.size G p.1).1 = b := ⟨_, rfl⟩
                obtain ⟨ox, hox⟩ : ∃ o, (plc w.heap.size G p.1).2 + p.2 = o := ⟨_, rfl⟩
                rw [hbx] at hstep hth hub hfz hbl hn0 hnM ⊢
                rw [hox] at hstep hth ⊢
                obtain ⟨v0, e0⟩ := hth 0 (by omega)
                obtain ⟨v1, e1⟩ := hth 1 (by omega)
                obtain ⟨v2, e2⟩ := hth 2 (by omega)
                rw [Nat.add_zero] at e0
                have hji2 : (j : Int) + 1 ≤ 10000 := by omega
                have HST := Lib.hid hstep; have HUB := Lib.hid hub; have HFZ := Lib.hid hfz; have HBL := Lib.hid hbl; have HN0 := Lib.hid hn0; have HNM := Lib.hid hnM; have HT := Lib.hid hT; have HLE2 := Lib.hid hle2; have HU := Lib.hid hu; have HNXM := Lib.hid hnxM; have HNX := Lib.hid hnx; have HJ := Lib.hid hj
                clear hstep hth hub hbl hn0 hnM hT hle2 hu hnxM hnx hw hM hle hok hp hty t0 t1 t2 hN hz0 hz1 hstart hC hs21 hb21 hVw hnone hlen hused husp h1V h1U hbx hox ht hj hjl
                gi_upto_region 18 with fail
                obtain ⟨U2, hU2⟩ : ∃ U2, U.setCells bx ox [.int .i64 t.kind, .int .i64 t.num, .slice ta t.kids.length tc] = U2 := ⟨_, rfl⟩
                have hU2' : ((U.setCell ⟨bx, ox, none⟩ (.int .i64 t.kind)).setCell ⟨bx, ox + 1, none⟩ (.int .i64 t.num)).setCell ⟨bx, ox + 2, none⟩ (.slice ta t.kids.length tc) = U2 := hU2
                rw [hU2']
                have hst := HST.out
                rw [hU2] at hst
                have hTU : ∀ X : Nat → Prop, X bx → Turns X U U2 := fun X hX => by
                  rw [← hU2']
                  exact ((Turns.setCell _ ⟨bx, ox, none⟩ _ hX).trans (Turns.setCell _ ⟨bx, ox + 1, none⟩ _ hX)).trans (Turns.setCell _ ⟨bx, ox + 2, none⟩ _ hX)
                have hnx2 := (hTU (fun k => k = bx) rfl).heap HNX.out (fun h => by have := HBL.out; omega)
                have n2 : U2.cell? ⟨V.heap.size, 0, none⟩ = some (.int .i64 (j : Int)) := cell_box hnx2 rfl rfl
                have nf2 : U2.frozen? ⟨V.heap.size, 0, none⟩ = false := Boxed.frozen hnx2
                have HTU := Lib.hid hTU; have HNX2 := Lib.hid hnx2; have HST2 := Lib.hid hst
                clear hU2 hU2' hst hTU hnx2 s0 s1 s2 l0 n0 nf e0 e1 e2 hfz
                gi_wp2
                have hs2 := (HTU.out (fun _ => True) trivial).size
                have hT2 : Turns (fun k => (w.heap.size ≤ k) ∧ ¬ M k) U (U2.setCell ⟨V.heap.size, 0, none⟩ (.int .i64 ((j : Int) + 1))) := (HTU.out _ ⟨HN0.out, HNM.out⟩).trans (Turns.setCell _ _ _ ⟨by have := HVW.out; show w.heap.size ≤ V.heap.size; omega, HNXM.out⟩)
                refine ⟨hT2, ⟨?_, HU.out⟩, ⟨?_, HNXM.out⟩, by simpa using Nat.le_trans HLE2.out hs2, HT.out.trans ((HTU.out _ (.inl (.inl HUB.out))).trans (Turns.setCell _ _ _ (.inl (.inr rfl))))⟩
                · rw [List.length_append, HJ.out]
                  refine HST2.out.same HC'.out HXK.out ?_ (by simp) (fun k hk => heap_setCell_other _ _ _ _ (fun e => by have := HUSE.out k hk; have e' : k = V.heap.size := e; omega))
                  exact HST2.out.low.setCell (p := ⟨V.heap.size, 0, none⟩) (by have := HVW.out; show w.heap.size ≤ V.heap.size; omega) _
                · rw [List.length_append, HJ.out]
                  exact Boxed.set _ HNX2.out
              case done2 =>
                rintro D2 M2 ps U hD2 hMD2 hM2 rfl ⟨⟨hw, hu⟩, _, hle2, hT⟩ hK2
                have hkk : (Dx.annsAll (bld w.heap.size G e [])).length = (ak e []).length := by rw [annsAll_bld, List.length_map]
                rw [hkk] at hw
                have hend := hw.ends hC HXK.out (by rw [HM.out, HK.out])
                obtain ⟨s', hat', hcs'⟩ := hend.parts
                obtain ⟨y0, y1, y2, y3, y4, y5, y6, y7, y8, y9, y10, y11, y12, y13, y14, y15, hyc⟩ : ∃ y0 y1 y2 y3 y4 y5 y6 y7 y8 y9 y10 y11 y12 y13 y14 y15, evCells (Ex.wth e l) s' = [y0, y1, y2, y3, y4, y5, y6, y7, y8, y9, y10, y11, y12, y13, y14, y15] := ⟨_, _, _, _, _, _, _, _, _, _, _, _, _, _, _, _, rfl⟩
                have hone : (#[y0, y1, y2, y3, y4, y5, y6, y7, y8, y9, y10, y11, y12, y13, y14, y15] : Array Value).all (·.oneCell') = true := by
                  rw [Array.all_eq_true_iff_forall_mem]
                  intro v hv
                  refine ev_one (Ex.wth e l) s' v ?_
                  rw [hyc]; simpa using hv
                have hcy : ∀ k v, ([y0, y1, y2, y3, y4, y5, y6, y7, y8, y9, y10, y11, y12, y13, y14, y15] : List Value)[k]? = some v → U.cell? ⟨w.heap.size, k, none⟩ = some v := fun k v hv => by
                  have := hcs' k v (by rw [hyc]; exact hv)
                  rwa [Nat.zero_add] at this
                have c0 := hcy 0 y0 rfl
                have c1 := hcy 1 y1 rfl
                have c2 := hcy 2 y2 rfl
                have c3 := hcy 3 y3 rfl
                have c4 := hcy 4 y4 rfl
                have c5 := hcy 5 y5 rfl
                have c6 := hcy 6 y6 rfl
                have c7 := hcy 7 y7 rfl
                have c8 := hcy 8 y8 rfl
                have c9 := hcy 9 y9 rfl
                have c10 := hcy 10 y10 rfl
                have c11 := hcy 11 y11 rfl
                have c12 := hcy 12 y12 rfl
                have c13 := hcy 13 y13 rfl
                have c14 := hcy 14 y14 rfl
                have c15 := hcy 15 y15 rfl
                have h2V := (hb21.block (w.heap.size + 1 + 1) (by omega)).trans HK2.out
                have h2U := hT.heap h2V (fun h => by
                  rcases h with (h | h) | h
                  · rcases husp _ h with h | h <;> omega
                  · omega
                  · omega)
                have hDU := hT.heap ((hb21.block D HDM.out).trans (HMK.out.here D (by simp))) (fun h => by
                  rcases h with (h | h) | h
                  · exact HUD.out h
                  · have := HDM.out; omega
                  · have := HDM.out; omega)
                have hD2u : ¬ Used w.heap.size G xs D2 := fun h => by have := hused D2 h; omega
                have HAT := Lib.hid hat'; have HYC := Lib.hid hyc; have HONE := Lib.hid hone; have H2U := Lib.hid h2U; have HDU := Lib.hid hDU; have HD2U := Lib.hid hD2u; have HK2' := Lib.hid hK2; have HLOW := Lib.hid hw.low; have HD2 := Lib.hid hD2; have HUL := Lib.hid (show V.heap.size + 2 ≤ U.heap.size by omega)
                clear hz0 hz1 hstart hC hs21 hb21 hVw hnone hlen hused husp hw hu hle2 hT hK2 hkk hend hat' hcs' hyc hone hcy h2V h2U hDU hD2u
                gi_upto_region 19 with fail
                gi_step
                gi_step
                gi_step
                go_simp
                gi_step
                refine wpListIn_store_row rfl 30 (.tmp 4) (.tmp 54) rfl (w.heap.size + 1 + 1) _ _ 30 rfl rfl H2U.out (by kernel_rfl) rfl HONE.out ?_
                obtain ⟨U3, hU3⟩ : ∃ U3, U.setRow (w.heap.size + 1 + 1) #[y0, y1, y2, y3, y4, y5, y6, y7, y8, y9, y10, y11, y12, y13, y14, y15] = U3 := ⟨_, rfl⟩
                rw [hU3]
                have hs3' : U3.heap.size = U.heap.size := by rw [← hU3]; exact size_setRow _ _ _
                have hg3 : U3.heap[w.heap.size + 1 + 1]? = some (.cells #[y0, y1, y2, y3, y4, y5, y6, y7, y8, y9, y10, y11, y12, y13, y14, y15] 30) := by rw [← hU3]; exact setRow_heap U _ _ _ _ _ H2U.out
                have ho3 : ∀ k, k ≠ w.heap.size + 1 + 1 → U3.heap[k]? = U.heap[k]? := fun k hk => by rw [← hU3]; exact setRow_other _ _ _ _ hk
                have hl3 : Below w.heap.size w U3 := by rw [← hU3]; exact below_setRow HLOW.out (by omega) _
                have HG3 := Lib.hid hg3; have HO3 := Lib.hid ho3; have HL3 := Lib.hid hl3; have HS3' := Lib.hid hs3'
                clear hg3 ho3 hl3 hs3' hU3 c0 c1 c2 c3 c4 c5 c6 c7 c8 c9 c10 c11 c12 c13 c14 c15
                gi_wp2
                have hDD : D ≠ D2 := by have := HDM.out; have := HD2.out; have := HS21.out; omega
                have hDg : D ≠ w.heap.size + 1 + 1 := by have := HS11.out; omega
                have hD2g : D2 ≠ w.heap.size + 1 + 1 := by have := HD2.out; have := HS21.out; have := HVW.out; omega
                refine ⟨by simp, .inl ⟨_, _, rfl, run_takeDeferred ((HO3.out D2 hD2g).trans HK2'.out), ?_⟩⟩
                refine ⟨by simp, .inl ⟨_, _, rfl, run_takeDeferred ((World.putObj_heap_other hDD).trans ((HO3.out D hDg).trans HDU.out)), ?_⟩⟩
                obtain ⟨W', hW'⟩ : ∃ W', (U3.putObj D2 (.deferred none)).putObj D (.deferred none) = W' := ⟨_, rfl⟩
                rw [hW']
                have hgW : W'.heap[w.heap.size + 1 + 1]? = some (.cells #[y0, y1, y2, y3, y4, y5, y6, y7, y8, y9, y10, y11, y12, y13, y14, y15] 30) := by rw [← hW']; exact (World.putObj_heap_other hDg.symm).trans ((World.putObj_heap_other hD2g.symm).trans HG3.out)
                have hoW : ∀ k, k ≠ w.heap.size + 1 + 1 → k ≠ D → k ≠ D2 → W'.heap[k]? = U.heap[k]? := fun k h1 h2 h3 => by rw [← hW']; exact (World.putObj_heap_other h2).trans ((World.putObj_heap_other h3).trans (HO3.out k h1))
                have hlW : Below w.heap.size w W' := by
                  rw [← hW']
                  have hT : Turns (fun k => w.heap.size ≤ k) U3 ((U3.putObj D2 (.deferred none)).putObj D (.deferred none)) := (Turns.putObj _ D2 _ (by have := HD2.out; have := HS21.out; have := HVW.out; omega)).trans (Turns.putObj _ D _ (by have := HS11.out; omega))
                  exact hT.below HL3.out (fun _ h => h) HL3.out.size
                have hsW : W'.heap.size = U.heap.size := by rw [← hW']; simp [HS3'.out]
                have hwo : withOf e l = (Ex.wth e l, 0) := by
                  unfold withOf
                  rw [hr, HALL2.out, HM.out, HK.out]; simp
                refine ⟨.tuple #[.agg #[y0, y1, y2, y3, y4, y5, y6, y7, y8, y9, y10, y11, y12, y13, y14, y15], .int .i64 0], ?_, ⟨s', ?_, ?_⟩, hlW⟩
                · rw [results_cell_tmp (p := 4) (u := 5) (ty := 30) (by kernel_rfl)]
                  simp [asAddr, Result.andThen, run_loadVar_row W' _ 30 30 _ _ _ hgW Tryz.underlying30 rfl (by kernel_rfl)]
                · rw [hwo]
                  unfold ev
                  rw [HYC.out]
                · rw [hwo]
                  refine HAT.out.mono (fun b o hb => World.cell?_of_block (a := ⟨b, o, none⟩) (hoW b ?_ ?_ ?_)) (fun b hb => ?_)
                  · rcases hb with h | h
                    · omega
                    · rcases HUSP.out b h with h | h
                      · omega
                      · have := HS11.out; omega
                  · rintro rfl
                    rcases hb with h | h
                    · have := HS11.out; omega
                    · exact HUD.out h
                  · rintro rfl
                    rcases hb with h | h
                    · have := HD2.out; have := HS21.out; have := HVW.out; omega
                    · exact HD2U.out h
                  · show b < W'.heap.size
                    rw [hsW]
                    rcases hb with h | h
                    · have := HUL.out; have := HVW.out; omega
                    · have := HUSE.out b h; have := HUL.out; omega
              case stop2 =>
                rintro D2 M2 c pre U hD2 _ _ h _
                exact h.elim
            case stop =>
              rintro D M c pre V hD _ _ h _
              exact h.elim
end Go.Proofs.YtmmhpibkjdlkgaaGreat

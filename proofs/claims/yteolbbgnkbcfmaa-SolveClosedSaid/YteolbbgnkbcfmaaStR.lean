/- store.Read: the type of a node. -/
import Derived.Test.YteolbbgnkbcfmaaStQ
namespace Go.Proofs.Yteolbbgnkbcfmaa
open Go Go.RowKit Go.Shelf
open Tp (T)
open Sg (Of Rt Den Dens Alk Mkd trav travs rootOf kidsOf)
attribute [local go_sem] Oper.semAt_some
section
variable {B s g cap : Nat} {L C K : Int} {w : World} {H : List SNd}
/-- What Read hands back. -/
def RdP (B s g cap : Nat) (L C K : Int) (H : List SNd) (t : T) (w : World) (e : Ending) (w' : World) : Prop :=
  Kp w.heap.size (fun k => k = s ∨ k = g) w w' ∧ ∃ H', Alk H H' ∧ (∀ d ∈ H', d.c.met ≤ K + 1) ∧
    if (Tp.size t : Int) ≤ L - C then (∃ a c, e = .returned (.tuple #[tv t a c, .int .i64 0]) ∧ TyAt (fun k => w.heap.size ≤ k ∧ k < w'.heap.size) w' t a c) ∧ SV B s g cap L (C + Tp.size t) (K + 1) w' H'
    else e = .returned (.tuple #[.agg #[.int .i64 0, .int .i64 0, .slice none 0 0], .int .i64 7]) ∧ SV B s g cap L C (K + 1) w' H'
theorem wp_only {P : Program} {c : Code} {K : Act → World → Prop} {Q' : Exit → Act → World → Prop} {a : Act} {w : World} (h : c.wp P (Exit.then K (fun _ _ _ => False)) a w) : c.wp P (Exit.then K Q') a w :=
  (wpIn_wide (n := 9)).1 (wpIn_mono ((wpIn_wide (n := 9)).2 h) (fun e a' w' hq => by cases e <;> first | exact hq | exact hq.elim))
theorem wpIn_only {F : Fence} {n : Nat} {P : Program} {c : Code} {K : Act → World → Prop} {Q' : Exit → Act → World → Prop} {a : Act} {w : World} (h : c.wpIn F n P (Exit.then K (fun _ _ _ => False)) a w) : c.wpIn F n P (Exit.then K Q') a w :=
  wpIn_mono h (fun e a' w' hq => by cases e <;> first | exact hq | exact hq.elim)
theorem far_grown {A D : World} {o : Obj} {r : Option Nat} (hg : (A.alloc o).grownBy D r) {b : Nat} {x : Obj} (hb : A.heap[b]? = some x) (hr : some b ≠ r) : D.heap[b]? = some x := by
  have hl := (Array.getElem?_eq_some_iff.1 hb).1
  exact (hg.block b (by rw [World.size_alloc]; omega) hr).trans ((Below.heap_alloc _ _ _ hl).trans hb)
/-- Within a round: the kids' types so far, in a part's box in block V.heap.size. -/
structure KdI (B s g cap : Nat) (L C K : Int) (Hm : List SNd) (V : World) (lo : Nat) (kk un : Int) (us : List T) (k : Nat) (wr : World) : Prop where
  sv : SV B s g cap L C K wr Hm
  tn : Turns (fun k => k = g) V wr
  row : ∃ (es : List Ke) (a : Option Addr) (c : Nat), es.map Ke.t = us.take k ∧ wr.ownsRow (V.heap.size + 1) 26 3 (.slice a k c) k (rowCells es) ∧
    (∀ e ∈ es, TyAt (fun j => lo ≤ j ∧ j < V.heap.size) V e.t e.a e.cap) ∧
    wr.heap[V.heap.size]? = some (.cells #[.int .i64 kk, .int .i64 un, .slice a k c, .int .i64 ((1 + Tp.sizes (us.take k) : Nat) : Int)] 106)
theorem KdI.step {K kk un z : Int} {Hm : List SNd} {V wr wc w7 : World} {lo k g1 c c1 : Nat} {us : List T} {es : List Ke} {a : Option Addr} {x : Ke} {o : Obj} (hsv : SV B s g cap L C K wc Hm) (htn : Turns (fun k => k = g) V wr) (htc : Turns (fun k => k = g) wr wc) (hgV : g < V.heap.size) (hsV : s < V.heap.size) (hk : k < us.length) (hes : es.map Ke.t = us.take k)
    (heach : ∀ e ∈ es, TyAt (fun j => lo ≤ j ∧ j < V.heap.size) V e.t e.a e.cap) (hx : x.t = us[k]) (hxt : TyAt (fun j => lo ≤ j ∧ j < V.heap.size) V x.t x.a x.cap) (hbx : wc.heap[V.heap.size]? = some (.cells #[.int .i64 kk, .int .i64 un, .slice a k c, .int .i64 z] 106)) (hz : z = ((1 + Tp.sizes (us.take k) : Nat) : Int))
    (hown : wr.ownsRow (V.heap.size + 1) 26 3 (.slice a k c) k (rowCells es)) (own7 : w7.ownsRow (V.heap.size + 1) 26 3 (.slice (some ⟨g1, 0, none⟩) (k + 1) c1) (k + 1) (rowCells es ++ keCells x)) (gr : (wc.alloc o).grownBy w7 (Value.slice a k c).ownBlock) :
    KdI B s g cap L C K Hm V lo kk un us (k + 1) ((w7.setCell ⟨V.heap.size, 2, none⟩ (.slice (some ⟨g1, 0, none⟩) (k + 1) c1)).setCell ⟨V.heap.size, 3, none⟩ (.int .i64 (z + (Tp.size x.t : Int)))) := by
  have hlt : V.heap.size < wc.heap.size := (Array.getElem?_eq_some_iff.1 hbx).1
  have hb7 := far_grown gr hbx (fun e => by have := (hown.lt _ e.symm).1; omega)
  have hfar : ∀ j, j < V.heap.size → w7.heap[j]? = wc.heap[j]? := fun j hj => (gr.block j (by rw [World.size_alloc]; omega) (fun e => by have := (hown.lt _ e.symm).1; omega)).trans (Below.heap_alloc _ _ _ (by omega))
  have hs7 : wc.heap.size < w7.heap.size := by have := gr.size; rw [World.size_alloc] at this; omega
  obtain ⟨D, hD⟩ : ∃ D, (w7.setCell ⟨V.heap.size, 2, none⟩ (.slice (some ⟨g1, 0, none⟩) (k + 1) c1)).setCell ⟨V.heap.size, 3, none⟩ (.int .i64 (z + (Tp.size x.t : Int))) = D := ⟨_, rfl⟩
  have hTD : Turns (fun j => j = V.heap.size) w7 D := by rw [← hD]; exact (set_turns w7 ⟨V.heap.size, 2, none⟩ _).trans (set_turns _ ⟨V.heap.size, 3, none⟩ _)
  have hbD : D.heap[V.heap.size]? = some (.cells #[.int .i64 kk, .int .i64 un, .slice (some ⟨g1, 0, none⟩) (k + 1) c1, .int .i64 (z + (Tp.size x.t : Int))] 106) := by rw [← hD]; exact box_set (box_set hb7)
  have hDf : ∀ j, j < w7.heap.size → j ≠ V.heap.size → D.heap[j]? = w7.heap[j]? := fun j hj hn => hTD.block j hj hn
  rw [hD]
  refine ⟨hsv.same ((hDf s (by omega) (by omega)).trans (hfar s hsV)) ((hDf g (by omega) (by omega)).trans (hfar g hgV)), ⟨hTD.os.trans (gr.os.trans (htc.os.trans htn.os)), hTD.tape.trans (gr.tape.trans (htc.tape.trans htn.tape)), hTD.output.trans (gr.output.trans (htc.output.trans htn.output)), by have := hTD.size; have := htn.size; have := htc.size; omega, fun j hj hm => (hDf j (by omega) (by omega)).trans ((hfar j hj).trans ((htc.block j (Nat.lt_of_lt_of_le hj htn.size) hm).trans (htn.block j hj hm)))⟩,
    es ++ [x], some ⟨g1, 0, none⟩, c1, ?_, ?_, ?_, ?_⟩
  · rw [List.map_append, hes, List.take_succ_eq_append_getElem hk, ← hx]; rfl
  · rw [rowCells_snoc]; exact own_same own7 (fun j e => hDf j (own7.lt j e).2 (by have := (own7.lt j e).1; omega))
  · intro e he
    rcases List.mem_append.1 he with he | he
    · exact heach e he
    · obtain rfl := List.mem_singleton.1 he; exact hxt
  · rw [hbD, sizes_take us k hk, ← hx, hz, ← Int.natCast_add, Nat.add_assoc]
theorem KdI.below {K kk un : Int} {Hm : List SNd} {V wr wx : World} {lo k : Nat} {us : List T} (h : KdI B s g cap L C K Hm V lo kk un us k wr) (hb : Below wr.heap.size wr wx) : KdI B s g cap L C K Hm V lo kk un us k wx := by
  obtain ⟨h1, h2, es, a, c, h3, h4, h5, h6⟩ := h
  exact ⟨h1.below hb, h2.trans (below_turns hb), es, a, c, h3, own_same h4 (fun j e => hb.block j (h4.lt j e).2), h5, (hb.block _ (Array.getElem?_eq_some_iff.1 h6).1).trans h6⟩
/-- A part's box of zeros is written. -/
theorem put_four {y F : World} {bb : Nat} {v0 v1 v2 v3 : Value} (hbox : y.heap[bb]? = some (.cells #[.int .i64 0, .int .i64 0, .slice none 0 0, .int .i64 0] 106 (0, 0)))
    (hF : (((y.setCell ⟨bb, 0, none⟩ v0).setCell ⟨bb, 1, none⟩ v1).setCell ⟨bb, 2, none⟩ v2).setCell ⟨bb, 3, none⟩ v3 = F) : F.heap[bb]? = some (.cells #[v0, v1, v2, v3] 106 (0, 0)) ∧ Turns (fun k => k = bb) y F := by
  rw [← hF]
  exact ⟨box_set (box_set (box_set (box_set hbox))), (((set_turns y ⟨bb, 0, none⟩ v0).trans (set_turns _ ⟨bb, 1, none⟩ v1)).trans (set_turns _ ⟨bb, 2, none⟩ v2)).trans (set_turns _ ⟨bb, 3, none⟩ v3)⟩
theorem zero_four {y : World} {bb : Nat} {ty : TypeId} (h : y.heap[bb]? = some (.cells #[.int .i64 0, .int .i64 0, .slice none 0 0, .int .i64 0] ty (0, 0))) : y.cell? ⟨bb, 0, none⟩ = some (.int .i64 0) ∧ y.cell? ⟨bb, 1, none⟩ = some (.int .i64 0) ∧ y.cell? ⟨bb, 2, none⟩ = some (.slice none 0 0) ∧ y.cell? ⟨bb, 3, none⟩ = some (.int .i64 0) ∧ y.frozen? ⟨bb, 0, none⟩ = false ∧ y.frozen? ⟨bb, 1, none⟩ = false ∧ y.frozen? ⟨bb, 2, none⟩ = false ∧ y.frozen? ⟨bb, 3, none⟩ = false :=
  ⟨cell_box h rfl rfl, cell_box h rfl rfl, cell_box h rfl rfl, cell_box h rfl rfl, IsC.frozen ⟨_, _, h⟩, IsC.frozen ⟨_, _, h⟩, IsC.frozen ⟨_, _, h⟩, IsC.frozen ⟨_, _, h⟩⟩
/-- Between two rounds: the parts of all roots that were met, in a map in block mb; the results' boxes. -/
structure RdI (s : Nat) (L C : Int) (H : List SNd) (w W7 : World) (mb : Nat) (M : Nat → Prop) (Y : List Nat) (V : World) : Prop where
  parts : ∃ n PM, PMAt V mb n PM ∧ n ≤ Y.length ∧ ∀ i ∈ Y, ∃ ti a c, Den H ti i ∧ (Tp.size ti : Int) ≤ L - C ∧ PM (i : Int) = some ⟨ti, a, c⟩ ∧ TyAt (fun k => W7.heap.size + 2 ≤ k ∧ k < V.heap.size) V ti a c
  box : V.heap[mb + 1]? = some (.cells #[.map (some mb)] 104)
  b0 : V.heap[w.heap.size]? = some (.cells #[.pointer (some ⟨s, 0, none⟩)] 30)
  b1 : V.heap[w.heap.size + 1]? = some (.cells #[.int .i64 0, .int .i64 0, .slice none 0 0] 26)
  b2 : V.heap[w.heap.size + 2]? = some (.cells #[.int .i64 0] 45)
  keep : Kp w.heap.size M w V
/-- Where a part is too great. -/
structure RdX (L C : Int) (t : T) (w : World) (M : Nat → Prop) (c : Code) (Y : List Nat) (V : World) : Prop where
  ret : c = .ret
  big : ¬ (Tp.size t : Int) ≤ L - C
  b1 : V.heap[w.heap.size + 1]? = some (.cells #[.int .i64 0, .int .i64 0, .slice none 0 0] 26)
  b2 : V.heap[w.heap.size + 2]? = some (.cells #[.int .i64 7] 45)
  keep : Kp w.heap.size M w V
theorem Kp.on {M N : Nat → Prop} {w A D : World} (h : Kp w.heap.size M w A) (hT : Turns N A D) (hN : ∀ k, N k → k < w.heap.size → M k) : Kp w.heap.size M w D :=
  ⟨hT.os.trans h.os, hT.tape.trans h.tape, hT.output.trans h.output, Nat.le_trans h.size hT.size, fun i hi hm => (hT.block i (by have := h.size; omega) (fun x => hm (hN i x hi))).trans (h.block i hi hm)⟩
theorem RdI.step {L C : Int} {H : List SNd} {w W7 : World} {mb s g : Nat} {Y : List Nat} {A D : World} (h : RdI s L C H w W7 mb (fun k => k = s ∨ k = g) Y A) (hT : Turns (fun k => (k = s ∨ k = g) ∨ k = W7.heap.size ∨ k = W7.heap.size + 1) A D) (hs : s < w.heap.size) (hg : g < w.heap.size) (hw : w.heap.size ≤ mb) (hw3 : w.heap.size + 3 ≤ W7.heap.size) (hm : mb + 1 < W7.heap.size) : RdI s L C H w W7 mb (fun k => k = s ∨ k = g) Y D := by
  obtain ⟨n, PM, h1, h2, h3⟩ := h.parts
  refine ⟨⟨n, PM, h1.same (hT.block mb h1.lt (by omega)), h2, fun i hi => ?_⟩, hT.heap h.box (by omega), hT.heap h.b0 (by omega), hT.heap h.b1 (by omega), hT.heap h.b2 (by omega), h.keep.on hT (fun k hk hl => by rcases hk with hk | hk; exact hk; omega)⟩
  obtain ⟨ti, a, c, q1, q2, q3, q4⟩ := h3 i hi
  exact ⟨ti, a, c, q1, q2, q3, ty_same (fun k hk => hT.block k hk.2 (by have := hk.1; omega)) (fun k hk => ⟨hk.1, Nat.lt_of_lt_of_le hk.2 hT.size⟩) q4⟩
theorem RdX.step {L C : Int} {t : T} {w W7 : World} {s g : Nat} {c : Code} {Y : List Nat} {A D : World} (h : RdX L C t w (fun k => k = s ∨ k = g) c Y A) (hT : Turns (fun k => (k = s ∨ k = g) ∨ k = W7.heap.size ∨ k = W7.heap.size + 1) A D) (hs : s < w.heap.size) (hg : g < w.heap.size) (hw3 : w.heap.size + 3 ≤ W7.heap.size) (_ : True := trivial) : RdX L C t w (fun k => k = s ∨ k = g) c Y D :=
  ⟨h.ret, h.big, hT.heap h.b1 (by omega), hT.heap h.b2 (by omega), h.keep.on hT (fun k hk hl => by rcases hk with hk | hk; exact hk; omega)⟩
set_option maxRecDepth 100000 in
set_option maxHeartbeats 8000000 in
theorem read12_any (h : SV B s g cap L C K w H) (hm : ∀ d ∈ H, d.c.met ≤ K) (hK : 0 ≤ K ∧ K < 4611686018427387904) (hBd : Bds L C H) {t : T} {p : Nat} (hD : Den H t p) (hsz : Tp.size t ≤ 1000000) (hki : ∀ d ∈ H, I64 d.c.kind) :
    Calls Try.prog 25 #[.pointer (some ⟨s, 0, none⟩), .int .i64 (p : Int)] w (RdP B s g cap L C K H t w) := by
  have hpl : p < H.length := by obtain ⟨d, _, hd, _⟩ := hD.open; exact (List.getElem?_eq_some_iff.1 hd).1
  obtain ⟨W4, hW4⟩ : ∃ W, [Obj.cells #[.pointer (some ⟨s, 0, none⟩)] 30, .cells #[.int .i64 0, .int .i64 0, .slice none 0 0] 26, .cells #[.int .i64 0] 45, .cells #[.int .i64 (p : Int)] 3].foldl World.alloc w = W := ⟨_, rfl⟩
  have hb4 : Below w.heap.size w W4 := by rw [← hW4]; exact al_below _ _ (Nat.le_refl _)
  have hs4 : W4.heap.size = w.heap.size + 4 := by rw [← hW4]; exact al_size _ _
  have hx0 : W4.heap[w.heap.size]? = some (.cells #[.pointer (some ⟨s, 0, none⟩)] 30) := by rw [← hW4]; exact al_get _ w 0 _ rfl
  have hx1 : W4.heap[w.heap.size + 1]? = some (.cells #[.int .i64 0, .int .i64 0, .slice none 0 0] 26) := by rw [← hW4]; exact al_get _ w 1 _ rfl
  have hx2 : W4.heap[w.heap.size + 2]? = some (.cells #[.int .i64 0] 45) := by rw [← hW4]; exact al_get _ w 2 _ rfl
  have hx3 : W4.heap[w.heap.size + 3]? = some (.cells #[.int .i64 (p : Int)] 3) := by rw [← hW4]; exact al_get _ w 3 _ rfl
  have h4 := h.below hb4
  have hia : IntsAt W4 [(p : Int)] (some ⟨w.heap.size + 3, 0, none⟩) := fun i hi => by
    obtain rfl : i = 0 := by simp at hi; omega
    exact ⟨_, _, rfl, cell_box hx3 rfl rfl⟩
  have hhv := have12_any h4 [(p : Int)] (some ⟨w.heap.size + 3, 0, none⟩) 1 (by unfold maxLen; simp) hia
  rw [okN_nat hpl] at hhv
  have HW4' := Lib.hid (show (((w.alloc (.cells #[.pointer (some ⟨s, 0, none⟩)] 30)).alloc (.cells #[.int .i64 0, .int .i64 0, .slice none 0 0] 26)).alloc (.cells #[.int .i64 0] 45)).alloc (.cells #[.int .i64 (p : Int)] 3) = W4 from hW4)
  have d0 : W4.cell? ⟨w.heap.size, 0, none⟩ = some (.pointer (some ⟨s, 0, none⟩)) := cell_box hx0 rfl rfl
  have c0 : ((((w.alloc (.cells #[.pointer (some ⟨s, 0, none⟩)] 30)).alloc (.cells #[.int .i64 0, .int .i64 0, .slice none 0 0] 26)).alloc (.cells #[.int .i64 0] 45))).cell? ⟨w.heap.size, 0, none⟩ = some (.pointer (some ⟨s, 0, none⟩)) := cell_box (al_get [Obj.cells #[.pointer (some ⟨s, 0, none⟩)] 30, .cells #[.int .i64 0, .int .i64 0, .slice none 0 0] 26, .cells #[.int .i64 0] 45] w 0 _ rfl) rfl rfl
  have hmm := @run_makeMap Try.prog
  have HHV := Lib.hid hhv; have HB4 := Lib.hid hb4; have HX0 := Lib.hid hx0; have HX1 := Lib.hid hx1; have HX2 := Lib.hid hx2; have HS4 := Lib.hid hs4; have HSV := Lib.hid h4; have HM := Lib.hid hm; have HK := Lib.hid hK; have HD := Lib.hid hD; have HSZ := Lib.hid hsz; have HF := Lib.hid h.far; have HBD := Lib.hid hBd; have HKI := Lib.hid hki
  clear h hhv hW4 hb4 hx0 hx1 hx2 hx3 hs4 h4 hia hm hK hD hsz hpl hBd hki
  refine callsIn_wide (n := 9) |>.1 ?_
  refine callsIn_of_wp_marks Try.func25 rfl trivial ?_ rfl
  simp only [Try.ntmps25, List.size_toArray, List.length_cons, List.length_nil, Nat.reduceAdd, Nat.reduceSub, Array.replicate_succ, Array.replicate_zero, List.push_toArray, List.append_toArray, List.nil_append, List.cons_append]
  gi_upto_region 1 with fail
  gi_wp2
  rw [HW4'.out]
  refine ⟨trivial, ?_⟩
  refine (callsIn_wide.2 HHV.out).mono ?_
  rintro e w2 ⟨rfl, rfl⟩
  gi_upto_region 4 with fail
  obtain ⟨W5, hW5⟩ : ∃ W, (w2.alloc (.map #[] 0)).alloc (.cells #[.map (some w2.heap.size)] 104) = W := ⟨_, rfl⟩
  have hpm : PMAt (w2.alloc (.map #[] 0)) w2.heap.size 0 (fun _ => none) := pm_new w2
  have hb5 : Below w2.heap.size w2 W5 := by rw [← hW5]; exact ((Below.refl _ _).alloc (Nat.le_refl _) _).alloc (by simp) _
  have hs5 : W5.heap.size = w.heap.size + 6 := by rw [← hW5]; simp [HS4.out]
  have hm5 : PMAt W5 w2.heap.size 0 (fun _ => none) := hpm.same (by rw [← hW5]; exact Below.heap_alloc _ _ _ (by simp))
  have hbm5 : W5.heap[w2.heap.size + 1]? = some (.cells #[.map (some w2.heap.size)] 104) := by rw [← hW5]; have := World.alloc_heap_new (w2.alloc (.map #[] 0)) (.cells #[.map (some w2.heap.size)] 104); simpa using this
  have hz0 := (hb5.block _ (by rw [HS4.out]; omega)).trans HX0.out
  have hz1 := (hb5.block _ (by rw [HS4.out]; omega)).trans HX1.out
  have hz2 := (hb5.block _ (by rw [HS4.out]; omega)).trans HX2.out
  have d5 : W5.cell? ⟨w.heap.size, 0, none⟩ = some (.pointer (some ⟨s, 0, none⟩)) := cell_box hz0 rfl rfl
  rw [hW5]
  have HB5 := Lib.hid hb5; have HS5 := Lib.hid hs5; have HM5 := Lib.hid hm5; have HBM5 := Lib.hid hbm5; have HZ0 := Lib.hid hz0; have HZ1 := Lib.hid hz1; have HZ2 := Lib.hid hz2
  clear hW5 hpm hb5 hs5 hm5 hbm5 hz0 hz1 hz2 d0 c0 hmm HHV
  gi_wp2_with (refine ⟨trivial, ?_⟩; gi_at_call 74; refine (callsIn_wide.2 (roots12_any s p _)).mono ?_; rintro e w' ⟨rfl, rfl⟩)
  obtain ⟨W7, hW7⟩ : ∃ W, (W5.alloc (.cells #[.pointer (some ⟨s, 0, none⟩)] 30)).alloc (.cells #[.int .i64 (p : Int)] 3) = W := ⟨_, rfl⟩
  have hb7 : Below W5.heap.size W5 W7 := by rw [← hW7]; exact ((Below.refl _ _).alloc (Nat.le_refl _) _).alloc (by simp) _
  have hs7 : W7.heap.size = w.heap.size + 8 := by rw [← hW7]; simp [HS5.out]
  have hy0 : W7.heap[W5.heap.size]? = some (.cells #[.pointer (some ⟨s, 0, none⟩)] 30) := by rw [← hW7]; exact box1 _ _ _ _ _
  have hy1 : W7.heap[W5.heap.size + 1]? = some (.cells #[.int .i64 (p : Int)] 3) := by rw [← hW7]; exact box2 _ _ _ _ _
  have hm7 : PMAt W7 w2.heap.size 0 (fun _ => none) := HM5.out.same (hb7.block _ (by rw [HS4.out, HS5.out]; omega))
  have hbm7 := (hb7.block (w2.heap.size + 1) (by rw [HS4.out, HS5.out]; omega)).trans HBM5.out
  have hz0 := (hb7.block w.heap.size (by rw [HS5.out]; omega)).trans HZ0.out
  have hz1 := (hb7.block (w.heap.size + 1) (by rw [HS5.out]; omega)).trans HZ1.out
  have hz2 := (hb7.block (w.heap.size + 2) (by rw [HS5.out]; omega)).trans HZ2.out
  have hbw : Below w.heap.size w W7 := (HB4.out.tr HB5.out (Nat.le_refl _)).tr hb7 (Nat.le_refl _)
  have hsv7 : SV B s g cap L C K W7 H := (HSV.out.below HB5.out).below hb7
  rw [hW7]
  have hseq := roots_seq (B := B) (s := s) (g := g) (cap := cap) (L := L) (C := C) (K := K) H t p HD.out HK.out W5.heap.size (W5.heap.size + 1) W7 hy0 hy1 HM.out
  have HS7 := Lib.hid hs7; have HBW := Lib.hid hbw; have HSV7 := Lib.hid hsv7
  clear hW7 hb7 hs7 hy0 hy1 hbw hsv7 d5
  refine wpIn_range_sto (a₁ := fun r => { tmps := #[.pointer (some ⟨s, 0, none⟩), .int .i64 (p : Int), .pointer (some ⟨w.heap.size, 0, none⟩), undef, .pointer (some ⟨w.heap.size + 1, 0, none⟩), .pointer (some ⟨w.heap.size + 1 + 1, 0, none⟩), .pointer (some ⟨w2.heap.size + 1, 0, none⟩), .int .i64 (r : Int), undef, undef, undef, undef, undef, .pointer (some ⟨s, 0, none⟩), .int .i64 (p : Int), .slice (some ⟨w.heap.size + 1 + 1 + 1, 0, none⟩) 1 1, .bool true, .bool false, undef, .map (some w2.heap.size), .pointer (some ⟨s, 0, none⟩), .int .i64 (p : Int), .func (.func 117) #[] #[.pointer (some ⟨W5.heap.size, 0, none⟩), .pointer (some ⟨W5.heap.size + 1, 0, none⟩)], .int .i64 (r : Int), undef, undef, undef, undef, undef, undef, undef, undef, undef, undef, undef, undef, undef, undef, undef, undef, undef, undef, undef, undef, undef, undef, undef, undef, undef, undef, undef, undef, undef, undef, undef, undef, undef, undef, undef, undef, undef, undef, undef, undef, undef, undef, undef, undef, undef, undef, undef, undef, undef, undef, undef, undef, undef, undef, undef, undef, undef, undef, undef, undef, undef, undef, undef, undef, undef, undef, undef, undef, undef, undef, undef], defers := [] })
    (w0 := W7) (w := W7) rfl (enters_of Try.func117 (by kernel_rfl) rfl) hseq (Below.refl _ _) ?mine (fun m A D h hk => StS.same m A D h hk) rfl
    (RdI s L C H w W7 w2.heap.size (fun k => k = s ∨ k = g)) (RdX L C t w (fun k => k = s ∨ k = g)) ?inv ?invx ⟨⟨0, _, hm7, Nat.le_refl _, fun i hi => by cases hi⟩, hbm7, hz0, hz1, hz2, .of_below HBW.out⟩ ⟨HSV7.out, Alk.refl _, HM.out⟩ ?assign ?body ?done ?stop
  case mine => rintro k (rfl | rfl) <;> (have := HF.out; have := HS7.out; omega)
  case inv =>
    intro Y A D hI hT
    have := HF.out; have := HS7.out; have := HS4.out
    exact hI.step hT (by omega) (by omega) (by omega) (by omega) (by omega)
  case invx =>
    rintro c Y A D hI hT
    have := HF.out; have := HS7.out
    exact hI.step hT (by omega) (by omega) (by omega)
  case assign =>
    intro l r W K hK
    gi_wp2
    exact hK
  case body =>
    rintro l Y r ⟨m1, Hm⟩ V hI ⟨hsv, hal, hmm⟩ ⟨⟨d, u, hd, hdu, hdd, hkin, hyn, huz, -⟩, hm1⟩ hlt
    dsimp only at hsv hal hmm hm1
    subst hm1
    obtain ⟨e, he, heu, hek, -, hea, heb⟩ := hal.get hd
    obtain ⟨d1, r1, hd1, hr1, _, hk1, hn1, hds⟩ := hdd.open
    have hrr : r1 = d := by rw [hd] at hd1; injection hd1 with hd1; subst hd1; rw [hdu, hd] at hr1; injection hr1 with hr1; exact hr1.symm
    subst hrr
    have hd1d : d1 = r1 := by rw [hd] at hd1; injection hd1 with hd1; exact hd1.symm
    subst hd1d
    rw [hdu] at hn1
    have hrl := (List.getElem?_eq_some_iff.1 he).1
    obtain ⟨q0, q1⟩ := pt_int hrl
    obtain ⟨c0, c1, c2, c3⟩ := hsv.sbox
    have ck := (hsv.node he).1
    have e0 : V.cell? ⟨w.heap.size, 0, none⟩ = some (.pointer (some ⟨s, 0, none⟩)) := cell_box hI.b0 rfl rfl
    obtain ⟨kk, hkk⟩ : ∃ k, e.c.kind = k := ⟨_, rfl⟩
    rw [hkk] at ck
    have huk : u.kind = kk := by rw [← hk1, ← hek, hkk]
    obtain ⟨ks, hks⟩ : ∃ x, kidL e.c.kind e.c.a e.c.b = x := ⟨_, rfl⟩
    rw [← hek, ← hea, ← heb, hks] at hds
    have hkr : kidsOf H r = ks := by unfold kidsOf; rw [hd]; show kidL d1.c.kind d1.c.a d1.c.b = ks; rw [← hek, ← hea, ← heb]; exact hks
    rw [hkr] at hkin
    rw [huk] at hn1
    have HV := Lib.hid hsv; have HAL := Lib.hid hal; have HMM := Lib.hid hmm; have HI := Lib.hid hI; have HE := Lib.hid he; have HKK := Lib.hid hkk; have HUK := Lib.hid huk; have HUN := Lib.hid hn1; have HKS := Lib.hid hks; have HDS := Lib.hid hds; have HKIN := Lib.hid hkin; have HYN := Lib.hid hyn; have HUZ := Lib.hid huz; have HLT := Lib.hid hlt; have HDD := Lib.hid hdd
    clear hsv hal hmm hI he hkk huk hn1 hks hds hkin hyn huz hlt hd hdu hdd heu hek hea heb hd1 hr1 hk1 hkr hrl
    gi_upto_region 7 with fail
    obtain ⟨P0, hP0⟩ : ∃ x, V.alloc (.cells #[.int .i64 kk, .int .i64 0, .slice none 0 0, .int .i64 1] 106) = x := ⟨_, rfl⟩
    rw [hP0]
    have hb0 : Below V.heap.size V P0 := by rw [← hP0]; exact (Below.refl _ _).alloc (Nat.le_refl _) _
    have hbx : P0.heap[V.heap.size]? = some (.cells #[.int .i64 kk, .int .i64 0, .slice none 0 0, .int .i64 1] 106) := by rw [← hP0]; exact World.alloc_heap_new _ _
    have p0 : P0.cell? ⟨V.heap.size, 0, none⟩ = some (.int .i64 kk) := cell_box hbx rfl rfl
    have p1 : P0.cell? ⟨V.heap.size, 1, none⟩ = some (.int .i64 0) := cell_box hbx rfl rfl
    have fp : P0.frozen? ⟨V.heap.size, 1, none⟩ = false := IsC.frozen ⟨_, _, hbx⟩
    have HB0 := Lib.hid hb0; have HBX := Lib.hid hbx
    clear hP0 hb0 hbx c0 c1 c2 c3 e0 ck
    gi_upto_if 37 with fail
    gi_cut [] from 31 (fun wx => Below V.heap.size V wx ∧ wx.heap[V.heap.size]? = some (.cells #[.int .i64 kk, .int .i64 (if kk = 6 then (r : Int) else 0), .slice none 0 0, .int .i64 1] 106))
    case first =>
      by_cases h6 : kk = 6
      · gi_wp2
        gi_meet
        case rel => rw [if_pos h6]; exact ⟨HB0.out.setCell (Nat.le_refl _) _, box_set HBX.out⟩
      · gi_wp2
        gi_meet
        case rel => rw [if_neg h6]; exact ⟨HB0.out, HBX.out⟩
    case rest =>
    obtain ⟨hb1, hbx1⟩ := hcut
    rw [show (if kk = 6 then (r : Int) else 0) = u.num from HUN.out.symm] at hbx1
    obtain ⟨P1, hP1⟩ : ∃ x, wc = x := ⟨_, rfl⟩
    rw [hP1] at hb1 hbx1 ⊢
    obtain ⟨un, hun⟩ : ∃ x, u.num = x := ⟨_, rfl⟩
    rw [hun] at hbx1
    have e1 : P1.cell? ⟨w.heap.size, 0, none⟩ = some (.pointer (some ⟨s, 0, none⟩)) := cell_box ((hb1.block w.heap.size (by have := HF.out; have := HS7.out; have := HLT.out; omega)).trans HI.out.b0) rfl rfl
    have hsv1 := HV.out.below hb1
    have hkd := kids12_any hsv1 HE.out
    rw [HKK.out] at hkd
    have hkl : ks.length = ar kk := by rw [← HKS.out, kidL_len, HKK.out]
    obtain ⟨m, hm⟩ : ∃ x, ar kk = x := ⟨_, rfl⟩
    rw [hm] at hkd hkl
    have hm2' : m ≤ 2 := by rw [← hm]; exact ar_le _
    have hul : u.kids.length = m := by rw [HDS.out.len, hkl]
    have HUN2 := Lib.hid hun; have HB1 := Lib.hid hb1; have HBX1 := Lib.hid hbx1; have HSV1 := Lib.hid hsv1; have HKD := Lib.hid hkd; have HKL := Lib.hid hkl; have HMR := Lib.hid hm; have HM2' := Lib.hid hm2'; have HUL := Lib.hid hul
    clear hun hb1 hbx1 hsv1 hkd hkl hm hm2' hul hP1 wc p0 p1 fp HB0 HBX P0
    gi_upto_region 9 with fail
    gi_wp2_with (refine ⟨trivial, ?_⟩; gi_at_call 81; refine (CallsIn.inRound l (callsIn_wide.2 HKD.out)).mono ?_; rintro e w' ⟨rfl, hb2⟩)
    have HB2 := Lib.hid hb2
    have hkd0 : KdI B s g cap L C (K + 1) Hm V (W7.heap.size + 2) kk un u.kids 0 w' := ⟨HSV1.out.below hb2, (below_turns HB1.out).trans (below_turns hb2), [], none, 0, rfl, World.ownsRow_nil _ _ _ _, (fun e he => by cases he), by rw [hb2.block _ (Array.getElem?_eq_some_iff.1 HBX1.out).1, HBX1.out]; rfl⟩
    have HKD0 := Lib.hid hkd0
    clear hkd0 hb2 e1
    have hm2 : Try.prog.follows .mixedOrders = true := by kernel_rfl
    gi_loopg [45] m (fun gk v wr => ∃ k : Nat, k ≤ m ∧ v = .int .i64 (k : Int) ∧ KdI B s g cap L C (K + 1) Hm V (W7.heap.size + 2) kk un u.kids k wr ∧ gk = m - k)
    case atStart => exact ⟨0, Nat.zero_le _, rfl, HKD0.out, rfl⟩
    case round =>
      obtain ⟨k, hkm, rfl, hkd, rfl⟩ := hrel
      by_cases hlt : k < m
      · obtain ⟨hsv, htn, es, va, vc, hes, hown, heach, hpb⟩ := hkd
        have hkk : k < ks.length := by rw [HKL.out]; exact hlt
        have hkt : k < u.kids.length := by rw [HUL.out]; exact hlt
        obtain ⟨q, hq, hdq⟩ := HDS.out.get k hkt hkk
        have hpy : rootOf H q ∈ Y := by have := HKIN.out ks[k] (List.getElem_mem hkk); rw [hq] at this; simpa using this
        obtain ⟨n, PM, hpm, hn, hparts⟩ := HI.out.parts
        obtain ⟨ti, ea, ec, hdi, hfit, hPM, hty⟩ := hparts _ hpy
        have hti : ti = u.kids[k] := Den.det hdi hdq (hdq.root.2)
        obtain ⟨i, hi⟩ : ∃ i, rootOf H q = i := ⟨_, rfl⟩
        rw [hi] at hPM hdi
        obtain ⟨dq, hdq', hdqm⟩ : ∃ d : SNd, Hm[q]? = some d ∧ d.up = i := by
          obtain ⟨d, _, hd, _⟩ := hdq.open
          obtain ⟨e, he, heu, _⟩ := HAL.out.get hd
          exact ⟨e, he, by rw [heu, ← hi, rootOf_some hd]⟩
        have hroot := fun x (hx : SV B s g cap L C (K + 1) x Hm) => root12_any hx hdq'
        simp only [hdqm] at hroot
        have hii : I64 (i : Int) := by have := (List.getElem?_eq_some_iff.1 (show H[i]? = some _ from (hdi.open.choose_spec.choose_spec.1))).1; have := hsv.far; unfold I64; have h9 := HBD.out.n; have := HBD.out.l; have := HBD.out.cl; omega
        obtain ⟨ek, en, em, hv⟩ := TV.mk ti
        obtain ⟨ez, hez⟩ : ∃ z : Int, (Tp.size ti : Int) = z := ⟨_, rfl⟩
        have hgV : g < V.heap.size := HV.out.far.2.1
        have hsV : s < V.heap.size := HV.out.far.2.2.1
        have hf := HF.out; have hs7 := HS7.out; have hs4 := HS4.out; have hlt7 := HLT.out
        have hlk := fun x (hx : Turns (fun k => k = g) wr x) => pm_look (hpm.same ((hx.block _ (Nat.lt_of_lt_of_le hpm.lt htn.size) (fun e => by omega)).trans (htn.block _ hpm.lt (fun e => by omega)))) hii false
        simp only [pmV, hPM, ptV, hv.1, hv.2.1, hv.2.2, hez, Bool.false_eq_true, if_false] at hlk
        have hck := hsv.kid HE.out k (by rw [HKS.out]; exact hkk)
        simp only [HKS.out, hq] at hck
        obtain ⟨i1, i2⟩ := pt_int hlt
        have hbx := htn.heap HI.out.box (by omega)
        have hb0 := htn.heap HI.out.b0 (by omega)
        have HKT := Lib.hid hkt; have HSVR := Lib.hid hsv; have HTN := Lib.hid htn; have HES := Lib.hid hes; have HOWN := Lib.hid hown; have HEACH := Lib.hid heach; have HPB := Lib.hid hpb; have HRT := Lib.hid hroot; have HLK := Lib.hid hlk; have HTYP := Lib.hid hty; have HFIT := Lib.hid hfit; have HTV := Lib.hid hv; have HEZ := Lib.hid hez; have HTI := Lib.hid hti; have HMX := Lib.hid hbx; have HM0 := Lib.hid hb0
        have HCELL := Lib.hid (fun x (hx : SV B s g cap L C (K + 1) x Hm ∧ Turns (fun k => k = g) wr x) => (⟨cell_box (hx.2.heap HMX.out (by have := HF.out; have := HS4.out; omega)) rfl rfl, cell_box (hx.2.heap HM0.out (by have := HF.out; omega)) rfl rfl, HLK.out x hx.2⟩ : x.cell? ⟨w2.heap.size + 1, 0, none⟩ = some (.map (some w2.heap.size)) ∧ x.cell? ⟨w.heap.size, 0, none⟩ = some (.pointer (some ⟨s, 0, none⟩)) ∧ _))
        have HGV0 := Lib.hid hgV; have HSV0 := Lib.hid hsV
        have HGV := Lib.hid (show g < wr.heap.size from hsv.far.2.1); have HSV9 := Lib.hid (show s < wr.heap.size from hsv.far.2.2.1)
        clear hsv htn hes hown heach hpb hroot hlk hty hfit hv hez hti hbx hb0 hpm hn hparts hpy hPM hdi hi hdq hdq' hdqm hii hgV hsV hf hs7 hs4 hlt7 hq
        gi_upto_region 12 with fail
        gi_cut [11] from 200 (fun v wx => ∃ bb, v = .pointer (some ⟨bb, 0, none⟩) ∧ wr.heap.size ≤ bb ∧ wx.heap[bb]? = some (.cells #[.int .i64 ek, .int .i64 en, .slice ea em ec, .int .i64 ez] 106) ∧ SV B s g cap L C (K + 1) wx Hm ∧ Turns (fun k => k = g) wr wx)
        case first =>
          refine wpIn_only ?_
          obtain ⟨U0, hU0⟩ : ∃ x, wr.drew = x := ⟨_, rfl⟩
          have HS0 := Lib.hid (show SV B s g cap L C (K + 1) U0 Hm ∧ Turns (fun k => k = g) wr U0 by rw [← hU0]; exact ⟨HSVR.out.drew, Turns.drew _ _⟩)
          refine wpIn_region_round hm2 (by kernel_rfl) (by rintro ⟨_, _, h⟩; exact h) ?_
          rw [hU0]
          refine wpAny_of_held (S := fun x => SV B s g cap L C (K + 1) x Hm ∧ Turns (fun k => k = g) wr x) _ _ _ _ ?_
          clear hU0
          refine wpAnyH_take (i := 0) (oi := ⟨some 49, _, _, _, _, _⟩) (v := ?_) rfl (by kernel_rfl) (by kernel_rfl) (by kernel_rfl) (fun _ _ _ h => h.elim) (Or.inl ⟨by rfl, ?_⟩) HS0.out ?_
          rotate_left
          · (intro xx hSw; obtain ⟨c0, c1, hl9⟩ := HCELL.out _ hSw; go_simp; (try with_reducible rfl))
          try simp only [Act.put, List.setIfInBounds_toArray, List.set_cons_zero, List.set_cons_succ]
          refine wpAnyH_take (i := 1) (oi := ⟨some 50, _, _, _, _, _⟩) (v := ?_) rfl (by kernel_rfl) (by kernel_rfl) (by kernel_rfl) (fun _ _ _ h => h.elim) (Or.inl ⟨by rfl, ?_⟩) HS0.out ?_
          rotate_left
          · (intro xx hSw; obtain ⟨c0, c1, hl9⟩ := HCELL.out _ hSw; go_simp; (try with_reducible rfl))
          try simp only [Act.put, List.setIfInBounds_toArray, List.set_cons_zero, List.set_cons_succ]
          refine wpAnyH_take (i := 2) (oi := ⟨some 51, _, _, _, _, _⟩) (v := ?_) rfl (by kernel_rfl) (by kernel_rfl) (by kernel_rfl) (fun _ _ _ h => h.elim) (Or.inl ⟨by rfl, ?_⟩) HS0.out ?_
          rotate_left
          · (intro xx hSw; obtain ⟨c0, c1, hl9⟩ := HCELL.out _ hSw; go_simp; (try with_reducible rfl))
          try simp only [Act.put, List.setIfInBounds_toArray, List.set_cons_zero, List.set_cons_succ]
          refine wpAnyH_ready (rs := [3, 5]) (by kernel_rfl) (by simp) ?_
          refine AllReadyH.cons (o := ⟨some 52, _, _, _, _, _⟩) rfl (fun K hK => ?_) (AllReadyH.cons (o := ⟨some 11, _, _, _, _, _⟩) rfl (fun K hK => ?_) AllReadyH.nil)
          · skip
            go_simp
            refine (HRT.out _ HS0.out.1).mono ?_
            rintro e U1 ⟨rfl, hsv, hk⟩
            have HS1 := Lib.hid (And.intro hsv (HS0.out.2.trans (Kp.turns hk)))
            clear hsv hk
            dsimp only
            refine hK.out _ _ HS1.out (fun _ => ?_)
            clear hK K
            try simp only [Act.put, List.setIfInBounds_toArray, List.set_cons_zero, List.set_cons_succ]
            refine wpAnyH_take (i := 4) (oi := ⟨some 53, _, _, _, _, _⟩) (v := ?_) rfl (by kernel_rfl) (by kernel_rfl) (by kernel_rfl) (fun _ _ _ h => h.elim) (Or.inl ⟨by rfl, ?_⟩) HS1.out ?_
            rotate_left
            · (intro xx hSw; obtain ⟨c0, c1, hl9⟩ := HCELL.out _ hSw; go_simp; (try with_reducible rfl))
            try simp only [Act.put, List.setIfInBounds_toArray, List.set_cons_zero, List.set_cons_succ]
            refine wpAnyH_ready (rs := [5]) (by kernel_rfl) (by simp) ?_
            refine AllReadyH.cons (o := ⟨some 11, _, _, _, _, _⟩) rfl (fun K hK => ?_) AllReadyH.nil
            go_simp
            obtain ⟨U2, hU⟩ : ∃ V, U1.alloc (.cells #[.int .i64 0, .int .i64 0, .slice none 0 0, .int .i64 0] 106) = V := ⟨_, rfl⟩
            rw [hU]
            have hbU : Below U1.heap.size U1 U2 := by rw [← hU]; exact (Below.refl _ _).alloc (Nat.le_refl _) _
            have HS2 := Lib.hid (And.intro (HS1.out.1.below hbU) (HS1.out.2.trans (below_turns hbU)))
            have HZB := Lib.hid (show U2.heap[U1.heap.size]? = some (.cells #[.int .i64 0, .int .i64 0, .slice none 0 0, .int .i64 0] 106) by rw [← hU]; exact World.alloc_heap_new _ _)
            have HLB := Lib.hid (show U1.heap.size < U2.heap.size by rw [← hU, World.size_alloc]; omega)
            have HBB := Lib.hid HS1.out.2.size
            clear hU hbU
            refine hK.out _ _ HS2.out (fun _ => ?_)
            clear hK K
            try simp only [Act.put, List.setIfInBounds_toArray, List.set_cons_zero, List.set_cons_succ]
            obtain ⟨z0, z1, z2, z3, z4, z5, z6, z7⟩ := zero_four HZB.out
            have hpf := put_four (F := _) (v0 := .int .i64 ek) (v1 := .int .i64 en) (v2 := .slice ea em ec) (v3 := .int .i64 ez) HZB.out rfl
            have hb9 := HBB.out
            have hgv := HGV.out
            have hsf := HS2.out.1.same (hpf.2.block s HS2.out.1.far.2.2.1 (fun e => by have := HSV9.out; omega)) (hpf.2.block g HS2.out.1.far.2.1 (fun e => by omega))
            have htf : Turns (fun k => k = g) wr _ := ⟨hpf.2.os.trans HS2.out.2.os, hpf.2.tape.trans HS2.out.2.tape, hpf.2.output.trans HS2.out.2.output, Nat.le_trans HS2.out.2.size hpf.2.size, fun k hk hm => (hpf.2.block k (Nat.lt_of_lt_of_le hk HS2.out.2.size) (fun e => by omega)).trans (HS2.out.2.block k hk hm)⟩
            have HPF := Lib.hid hpf.1; have HSF := Lib.hid hsf; have HTF := Lib.hid htf
            clear hpf hb9 hgv
            refine wpAnyH_ready (rs := [6]) (by kernel_rfl) (by simp) ?_
            refine AllReadyH.cons (o := ⟨none, _, _, _, _, _⟩) rfl (fun K hK => ?_) AllReadyH.nil
            go_simp
            refine hK.out _ _ ⟨hsf, htf⟩ (fun _ => ?_)
            clear hK K hsf htf z0 z1 z2 z3 z4 z5 z6 z7
            try simp only [Act.put, List.setIfInBounds_toArray, List.set_cons_zero, List.set_cons_succ]
            refine wpAnyH_done (by kernel_rfl) ?_ _
            gi_wp2
            gi_meet
            case rel => exact ⟨_, rfl, HBB.out, HPF.out, HSF.out, HTF.out⟩
          · skip
            go_simp
            obtain ⟨U1, hU⟩ : ∃ V, U0.alloc (.cells #[.int .i64 0, .int .i64 0, .slice none 0 0, .int .i64 0] 106) = V := ⟨_, rfl⟩
            rw [hU]
            have hbU : Below U0.heap.size U0 U1 := by rw [← hU]; exact (Below.refl _ _).alloc (Nat.le_refl _) _
            have HS1 := Lib.hid (And.intro (HS0.out.1.below hbU) (HS0.out.2.trans (below_turns hbU)))
            have HZB := Lib.hid (show U1.heap[U0.heap.size]? = some (.cells #[.int .i64 0, .int .i64 0, .slice none 0 0, .int .i64 0] 106) by rw [← hU]; exact World.alloc_heap_new _ _)
            have HLB := Lib.hid (show U0.heap.size < U1.heap.size by rw [← hU, World.size_alloc]; omega)
            have HBB := Lib.hid HS0.out.2.size
            clear hU hbU
            refine hK.out _ _ HS1.out (fun _ => ?_)
            clear hK K
            try simp only [Act.put, List.setIfInBounds_toArray, List.set_cons_zero, List.set_cons_succ]
            refine wpAnyH_ready (rs := [3]) (by kernel_rfl) (by simp) ?_
            refine AllReadyH.cons (o := ⟨some 52, _, _, _, _, _⟩) rfl (fun K hK => ?_) AllReadyH.nil
            go_simp
            refine (HRT.out _ HS1.out.1).mono ?_
            rintro e U2 ⟨rfl, hsv, hk⟩
            have HS2 := Lib.hid (And.intro hsv (HS1.out.2.trans (Kp.turns hk)))
            have HZB := Lib.hid ((hk.block _ HLB.out (fun e => by have := HBB.out; have := HGV.out; omega)).trans HZB.out)
            have HLB := Lib.hid (Nat.lt_of_lt_of_le HLB.out hk.size)
            clear hsv hk
            dsimp only
            refine hK.out _ _ HS2.out (fun _ => ?_)
            clear hK K
            try simp only [Act.put, List.setIfInBounds_toArray, List.set_cons_zero, List.set_cons_succ]
            refine wpAnyH_take (i := 4) (oi := ⟨some 53, _, _, _, _, _⟩) (v := ?_) rfl (by kernel_rfl) (by kernel_rfl) (by kernel_rfl) (fun _ _ _ h => h.elim) (Or.inl ⟨by rfl, ?_⟩) HS2.out ?_
            rotate_left
            · (intro xx hSw; obtain ⟨c0, c1, hl9⟩ := HCELL.out _ hSw; go_simp; (try with_reducible rfl))
            try simp only [Act.put, List.setIfInBounds_toArray, List.set_cons_zero, List.set_cons_succ]
            obtain ⟨z0, z1, z2, z3, z4, z5, z6, z7⟩ := zero_four HZB.out
            have hpf := put_four (F := _) (v0 := .int .i64 ek) (v1 := .int .i64 en) (v2 := .slice ea em ec) (v3 := .int .i64 ez) HZB.out rfl
            have hb9 := HBB.out
            have hgv := HGV.out
            have hsf := HS2.out.1.same (hpf.2.block s HS2.out.1.far.2.2.1 (fun e => by have := HSV9.out; omega)) (hpf.2.block g HS2.out.1.far.2.1 (fun e => by omega))
            have htf : Turns (fun k => k = g) wr _ := ⟨hpf.2.os.trans HS2.out.2.os, hpf.2.tape.trans HS2.out.2.tape, hpf.2.output.trans HS2.out.2.output, Nat.le_trans HS2.out.2.size hpf.2.size, fun k hk hm => (hpf.2.block k (Nat.lt_of_lt_of_le hk HS2.out.2.size) (fun e => by omega)).trans (HS2.out.2.block k hk hm)⟩
            have HPF := Lib.hid hpf.1; have HSF := Lib.hid hsf; have HTF := Lib.hid htf
            clear hpf hb9 hgv
            refine wpAnyH_ready (rs := [6]) (by kernel_rfl) (by simp) ?_
            refine AllReadyH.cons (o := ⟨none, _, _, _, _, _⟩) rfl (fun K hK => ?_) AllReadyH.nil
            go_simp
            refine hK.out _ _ ⟨hsf, htf⟩ (fun _ => ?_)
            clear hK K hsf htf z0 z1 z2 z3 z4 z5 z6 z7
            try simp only [Act.put, List.setIfInBounds_toArray, List.set_cons_zero, List.set_cons_succ]
            refine wpAnyH_done (by kernel_rfl) ?_ _
            gi_wp2
            gi_meet
            case rel => exact ⟨_, rfl, HBB.out, HPF.out, HSF.out, HTF.out⟩
        case rest =>
          obtain ⟨bb, rfl, hbb, hbx, hsv, htc⟩ := hcut
          have hgV := HGV0.out; have hbl := (Array.getElem?_eq_some_iff.1 HPB.out).1
          have hpc := htc.heap HPB.out (by omega)
          obtain ⟨zk, hzk⟩ : ∃ z : Int, ((1 + Tp.sizes (u.kids.take k) : Nat) : Int) = z := ⟨_, rfl⟩
          rw [hzk] at hpc
          have hzb := sizes_take_le u.kids k; have hzt := sizes_take12 u.kids k hkt; have hus := size_kids12 u; have huz := HUZ.out; have hsz := HSZ.out; have hez := HEZ.out; have hti := HTI.out
          rw [hti] at hez
          have hwr : IntKind.i64.wrap (zk + ez) = zk + ez := by simp [IntKind.wrap, IntKind.bits, IntKind.signed]; omega
          have b0 : wc.cell? ⟨bb, 0, none⟩ = some (.int .i64 ek) := cell_box hbx rfl rfl
          have b1 : wc.cell? ⟨bb, 1, none⟩ = some (.int .i64 en) := cell_box hbx rfl rfl
          have b2 : wc.cell? ⟨bb, 2, none⟩ = some (.slice ea em ec) := cell_box hbx rfl rfl
          have p2 : wc.cell? ⟨V.heap.size, 2, none⟩ = some (.slice va k vc) := cell_box hpc rfl rfl
          obtain ⟨i0, hi, hz0, hz1, hz2⟩ := info_parts info_ty
          have hb40 := b40 (r := k) (by have := HM2'.out; omega)
          have hownc : wc.ownsRow (V.heap.size + 1) 26 3 (.slice va k vc) k (rowCells es) := own_same HOWN.out (fun j e => htc.block j (HOWN.out.lt j e).2 (fun h => by have := (HOWN.out.lt j e).1; omega))
          have HPC := Lib.hid hpc; have HZK := Lib.hid hzk; have HWR := Lib.hid hwr; have HOWC := Lib.hid hownc; have HBX9 := Lib.hid hbx; have HSVC := Lib.hid hsv; have HTC := Lib.hid htc; have HBB9 := Lib.hid hbb; have HB40 := Lib.hid hb40; have HLW := Lib.hid (Nat.le_trans (show V.heap.size + 1 ≤ wr.heap.size from hbl) htc.size)
          have HNR := Lib.hid (show some V.heap.size ≠ (Value.slice va k vc).ownBlock from fun e => by have := (HOWN.out.lt _ e.symm).1; omega)
          have hnb : bb ≠ V.heap.size := by have := hbl; omega
          have hnb' : V.heap.size ≠ bb := by have := hbl; omega
          have HNB := Lib.hid (show some bb ≠ (Value.slice va k vc).ownBlock from fun e => by have := (HOWN.out.lt _ e.symm).2; omega)
          clear hgV hbl hpc hzk hzb hzt hus huz hsz hez hti hb40 hownc hbx hsv htc hbb
          gi_upto_region 13 with fail
          gi_wp2_with (gi_at_builtin; refine wpListIn_append_lies _ rfl (.tmp 56) (.tmp 59) 24 rfl (V.heap.size + 1) 26 i0 (.agg #[.int .i64 0, .int .i64 0, .slice none 0 0]) 3 40 Try.underlying24 hi hz0 hz1 hz2 rfl (by decide) (.slice va k vc) k (rowCells es) rfl (HOWC.out.alloc _) ⟨wc.heap.size, 0, none⟩ 1 1 [.int .i64 ek, .int .i64 en, .slice ea em ec] rfl rfl (World.news_of_block (World.alloc_heap_new wc _)) (three_one _ _ _ _ _) (by decide) HB40.out.2 HB40.out.1 (Nat.le_trans HLW.out (by simp)) ?_; intro g1 c1 w7 hown1 hgr1 hly1; (have lu := far_grown hgr1 HPC.out HNR.out); (have lb := far_grown hgr1 HBX9.out HNB.out); (have cu : w7.cell? ⟨V.heap.size, 2, none⟩ = some (.slice va k vc) := cell_box lu rfl rfl); (have fu : w7.frozen? ⟨V.heap.size, 2, none⟩ = false := IsC.frozen ⟨_, _, lu⟩); (have cu3 : w7.cell? ⟨V.heap.size, 3, none⟩ = some (.int .i64 zk) := cell_box lu rfl rfl); (have fu3 : w7.frozen? ⟨V.heap.size, 3, none⟩ = false := IsC.frozen ⟨_, _, lu⟩); (have cb3 : w7.cell? ⟨bb, 3, none⟩ = some (.int .i64 ez) := cell_box lb rfl rfl); (have HLU := Lib.hid lu); (have HLB := Lib.hid lb); (have HOW7 := Lib.hid hown1); (have HGR7 := Lib.hid hgr1); clear lu lb hown1 hgr1 hly1)
          have hst := KdI.step (x := ⟨ti, ea, ec⟩) HSVC.out HTN.out HTC.out HGV0.out HSV0.out hkt HES.out HEACH.out HTI.out HTYP.out HPC.out HZK.out.symm HOWN.out (by simp only [keCells, HTV.out.1, HTV.out.2.1, HTV.out.2.2]; exact HOW7.out) HGR7.out
          rw [show (Tp.size (Ke.mk ti ea ec).t : Int) = ez from HEZ.out] at hst
          have HST := Lib.hid hst
          clear hst
          have hm9 := HM2'.out
          gi_roundg (m - (k + 1))
          case measure => omega
          case rel => exact ⟨k + 1, hlt, congrArg (Value.int .i64) (show wrap64 ((k : Int) + 1) = ((k + 1 : Nat) : Int) from by have := HM2'.out; unfold wrap64; omega), HST.out, rfl⟩
      · obtain rfl : k = m := by omega
        obtain ⟨hsv, htn, es, va, vc, hes, hown, heach, hpb⟩ := hkd
        have htk : u.kids.take k = u.kids := List.take_of_length_le (by rw [HUL.out]; exact Nat.le_refl _)
        rw [htk] at hes hpb
        obtain ⟨uz, huz⟩ : ∃ z : Int, (Tp.size u : Int) = z := ⟨_, rfl⟩
        rw [show ((1 + Tp.sizes u.kids : Nat) : Int) = uz from by rw [← huz, size_kids12 u, Nat.add_comm]] at hpb
        have hgV : g < V.heap.size := HV.out.far.2.1
        have hsV : s < V.heap.size := HV.out.far.2.2.1
        have hf := HF.out; have hs7 := HS7.out; have hs4 := HS4.out; have hlt7 := HLT.out
        have hb0 := htn.heap HI.out.b0 (by omega)
        have hroom := fun x (hx : SV B s g cap L C (K + 1) x Hm) => room12_any hx
        have hbd := HBD.out
        rw [show wrap64 (L - C) = L - C from by have := hbd.c0; have := hbd.cl; have := hbd.l; unfold wrap64; omega] at hroom
        have HCELL := Lib.hid (fun x (hx : SV B s g cap L C (K + 1) x Hm ∧ Below wr.heap.size wr x) => (⟨cell_box ((hx.2.block _ (Array.getElem?_eq_some_iff.1 hpb).1).trans hpb) rfl rfl, cell_box ((hx.2.block _ (Array.getElem?_eq_some_iff.1 hb0).1).trans hb0) rfl rfl⟩ : x.cell? ⟨V.heap.size, 3, none⟩ = some (.int .i64 uz) ∧ x.cell? ⟨w.heap.size, 0, none⟩ = some (.pointer (some ⟨s, 0, none⟩))))
        have HSVR := Lib.hid hsv; have HTN := Lib.hid htn; have HES := Lib.hid hes; have HOWN := Lib.hid hown; have HEACH := Lib.hid heach; have HPB := Lib.hid hpb; have HRM := Lib.hid hroom; have HUZ2 := Lib.hid huz; have HGV0 := Lib.hid hgV; have HSV0 := Lib.hid hsV; have HM0 := Lib.hid hb0
        clear hsv htn hes hown heach hpb htk huz hgV hsV hf hs7 hs4 hlt7 hb0 hroom hbd
        gi_upto_region 16 with fail
        gi_cut [74] from 200 (fun v wx => v = .bool (decide (L - C < uz)) ∧ Below wr.heap.size wr wx)
        case first =>
          refine wpIn_only ?_
          obtain ⟨U0, hU0⟩ : ∃ x, wr.drew = x := ⟨_, rfl⟩
          have HS0 := Lib.hid (show SV B s g cap L C (K + 1) U0 Hm ∧ Below wr.heap.size wr U0 by rw [← hU0]; exact ⟨HSVR.out.drew, (Below.refl _ _).drew⟩)
          refine wpIn_region_round hm2 (by kernel_rfl) (by rintro ⟨_, _, h⟩; exact h) ?_
          rw [hU0]
          refine wpAny_of_held (S := fun x => SV B s g cap L C (K + 1) x Hm ∧ Below wr.heap.size wr x) _ _ _ _ ?_
          clear hU0
          refine wpAnyH_take (i := 0) (oi := ⟨some 70, _, _, _, _, _⟩) (v := ?_) rfl (by kernel_rfl) (by kernel_rfl) (by kernel_rfl) (fun _ _ _ h => h.elim) (Or.inl ⟨by rfl, ?_⟩) HS0.out ?_
          rotate_left
          · (intro xx hSw; obtain ⟨c0, c1⟩ := HCELL.out _ hSw; go_simp; (try with_reducible rfl))
          try simp only [Act.put, List.setIfInBounds_toArray, List.set_cons_zero, List.set_cons_succ]
          refine wpAnyH_take (i := 1) (oi := ⟨some 71, _, _, _, _, _⟩) (v := ?_) rfl (by kernel_rfl) (by kernel_rfl) (by kernel_rfl) (fun _ _ _ h => h.elim) (Or.inl ⟨by rfl, ?_⟩) HS0.out ?_
          rotate_left
          · (intro xx hSw; obtain ⟨c0, c1⟩ := HCELL.out _ hSw; go_simp; (try with_reducible rfl))
          try simp only [Act.put, List.setIfInBounds_toArray, List.set_cons_zero, List.set_cons_succ]
          refine wpAnyH_take (i := 2) (oi := ⟨some 72, _, _, _, _, _⟩) (v := ?_) rfl (by kernel_rfl) (by kernel_rfl) (by kernel_rfl) (fun _ _ _ h => h.elim) (Or.inl ⟨by rfl, ?_⟩) HS0.out ?_
          rotate_left
          · (intro xx hSw; obtain ⟨c0, c1⟩ := HCELL.out _ hSw; go_simp; (try with_reducible rfl))
          try simp only [Act.put, List.setIfInBounds_toArray, List.set_cons_zero, List.set_cons_succ]
          refine wpAnyH_ready (rs := [3]) (by kernel_rfl) (by simp) ?_
          refine AllReadyH.cons (o := ⟨some 73, _, _, _, _, _⟩) rfl (fun K hK => ?_) AllReadyH.nil
          go_simp
          refine (HRM.out _ HS0.out.1).mono ?_
          rintro e U1 ⟨rfl, hb⟩
          have HS1 := Lib.hid (And.intro (HS0.out.1.below hb) (HS0.out.2.trans (hb.mono HS0.out.2.size)))
          clear hb
          dsimp only
          refine hK.out _ _ HS1.out (fun _ => ?_)
          clear hK K
          try simp only [Act.put, List.setIfInBounds_toArray, List.set_cons_zero, List.set_cons_succ]
          refine wpAnyH_take (i := 4) (oi := ⟨some 74, _, _, _, _, _⟩) (v := ?_) rfl (by kernel_rfl) (by kernel_rfl) (by kernel_rfl) (fun _ _ _ h => h.elim) (Or.inl ⟨by rfl, ?_⟩) HS1.out ?_
          rotate_left
          · (intro xx hSw; obtain ⟨c0, c1⟩ := HCELL.out _ hSw; go_simp; (try with_reducible rfl))
          try simp only [Act.put, List.setIfInBounds_toArray, List.set_cons_zero, List.set_cons_succ]
          refine wpAnyH_done (by kernel_rfl) ?_ _
          gi_wp2
          gi_meet
          case rel => exact ⟨by first | rfl | simp, HS1.out.2⟩
        case rest =>
          obtain ⟨rfl, hbw⟩ := hcut
          have hsv := HSVR.out.below hbw
          have htn := HTN.out.trans (below_turns (M := fun k => k = g) hbw)
          have hpb := (hbw.block _ (Array.getElem?_eq_some_iff.1 HPB.out).1).trans HPB.out
          have hown := own_same HOWN.out (fun j e => hbw.block j (HOWN.out.lt j e).2)
          have hf := HF.out; have hs7 := HS7.out; have hs4 := HS4.out; have hlt7 := HLT.out; have hgV := HGV0.out; have hsV := HSV0.out
          have hlw : V.heap.size < wc.heap.size := (Array.getElem?_eq_some_iff.1 hpb).1
          by_cases hbig : L - C < uz
          · have hb1' := htn.heap HI.out.b1 (by omega); have hb2' := htn.heap HI.out.b2 (by omega)
            have y0 : wc.cell? ⟨w.heap.size + 1, 0, none⟩ = some (.int .i64 0) := cell_box hb1' rfl rfl
            have y1 : wc.cell? ⟨w.heap.size + 1, 1, none⟩ = some (.int .i64 0) := cell_box hb1' rfl rfl
            have y2 : wc.cell? ⟨w.heap.size + 1, 2, none⟩ = some (.slice none 0 0) := cell_box hb1' rfl rfl
            have z0 : wc.cell? ⟨w.heap.size + 1 + 1, 0, none⟩ = some (.int .i64 0) := cell_box hb2' rfl rfl
            have f0 : wc.frozen? ⟨w.heap.size + 1, 0, none⟩ = false := IsC.frozen ⟨_, _, hb1'⟩
            have f1 : wc.frozen? ⟨w.heap.size + 1, 1, none⟩ = false := IsC.frozen ⟨_, _, hb1'⟩
            have f2 : wc.frozen? ⟨w.heap.size + 1, 2, none⟩ = false := IsC.frozen ⟨_, _, hb1'⟩
            have f3 : wc.frozen? ⟨w.heap.size + 1 + 1, 0, none⟩ = false := IsC.frozen ⟨_, _, hb2'⟩
            have HSV2 := Lib.hid hsv; have HTN2 := Lib.hid htn; have HB1' := Lib.hid hb1'; have HB2' := Lib.hid hb2'
            clear hsv htn hb1' hb2' hpb hown hbw hf hs7 hs4 hlt7 hgV hsV hlw
            have HBIG := Lib.hid hbig
            gi_wp2
            obtain ⟨F, hF⟩ : ∃ x, (((wc.setCell ⟨w.heap.size + 1, 0, none⟩ (.int .i64 0)).setCell ⟨w.heap.size + 1, 1, none⟩ (.int .i64 0)).setCell ⟨w.heap.size + 1, 2, none⟩ (.slice none 0 0)).setCell ⟨w.heap.size + 1 + 1, 0, none⟩ (.int .i64 7) = x := ⟨_, rfl⟩
            rw [hF]
            have hf := HF.out; have hs7 := HS7.out; have hs4 := HS4.out; have hlt7 := HLT.out; have hgV := HGV0.out; have hsV := HSV0.out; have hvc := HTN2.out.size
            have hTF : Turns (fun k => k = w.heap.size + 1 ∨ k = w.heap.size + 2) wc F := by rw [← hF]; exact (((Turns.setCell wc ⟨w.heap.size + 1, 0, none⟩ _ (.inl rfl)).trans (Turns.setCell _ ⟨w.heap.size + 1, 1, none⟩ _ (.inl rfl))).trans (Turns.setCell _ ⟨w.heap.size + 1, 2, none⟩ _ (.inl rfl))).trans (Turns.setCell _ ⟨w.heap.size + 1 + 1, 0, none⟩ _ (.inr rfl))
            have hFb1 : F.heap[w.heap.size + 1]? = some (.cells #[.int .i64 0, .int .i64 0, .slice none 0 0] 26) := by rw [← hF]; exact (Below.heap_setCell _ _ _ _ (by dsimp only; omega)).trans (box_set3 HB1'.out)
            have hFb2 : F.heap[w.heap.size + 1 + 1]? = some (.cells #[.int .i64 7] 45) := by
              rw [← hF]; refine box_set (A := #[.int .i64 0]) ?_
              exact (Below.heap_setCell _ _ _ _ (by dsimp only; omega)).trans ((Below.heap_setCell _ _ _ _ (by dsimp only; omega)).trans ((Below.heap_setCell _ _ _ _ (by dsimp only; omega)).trans HB2'.out))
            have hT8 : Turns (fun k => k = g ∨ (k = w.heap.size + 1 ∨ k = w.heap.size + 2)) V F := (HTN2.out.mono fun _ _ h => .inl h).trans (hTF.mono fun _ _ h => .inr h)
            refine ⟨⟨hT8.block _ (by omega) (by omega), hT8.block _ (by omega) (by omega)⟩, ⟨rfl, fun h => ?_, hFb1, hFb2, HI.out.keep.on hT8 (fun k hk hl => ?_)⟩, HSV2.out.same (hTF.block s (by omega) (by omega)) (hTF.block g (by omega) (by omega)), HAL.out, HMM.out⟩
            · have := HUZ.out; have := HUZ2.out; have := HBIG.out; omega
            · rcases hk with hk | hk
              · exact .inr hk
              · omega
          · obtain ⟨n, PM, hpm, hn, hparts⟩ := HI.out.parts
            have hbm := htn.heap HI.out.box (by omega)
            have m0 : wc.cell? ⟨w2.heap.size + 1, 0, none⟩ = some (.map (some w2.heap.size)) := cell_box hbm rfl rfl
            have p0 : wc.cell? ⟨V.heap.size, 0, none⟩ = some (.int .i64 kk) := cell_box hpb rfl rfl
            have p1 : wc.cell? ⟨V.heap.size, 1, none⟩ = some (.int .i64 un) := cell_box hpb rfl rfl
            have p2 : wc.cell? ⟨V.heap.size, 2, none⟩ = some (.slice va k vc) := cell_box hpb rfl rfl
            have p3 : wc.cell? ⟨V.heap.size, 3, none⟩ = some (.int .i64 uz) := cell_box hpb rfl rfl
            have hri : I64 (r : Int) := by have := HBD.out.n; have := HBD.out.l; have := HBD.out.cl; have := HAL.out.len; unfold I64; omega
            have hnn : n ≤ 1000000 := by have := HYN.out; have := HSZ.out; omega
            obtain ⟨W8, hput, hm8, hg8⟩ := pm_put (hpm.same (htn.block _ hpm.lt (fun e => by omega))) hri ⟨u, va, vc⟩ (by omega)
            simp only [ptV, HUK.out, HUN2.out, HUL.out, HUZ2.out] at hput
            have hT8 : Turns (fun k => k = g ∨ k = w2.heap.size) V W8 := ⟨hg8.os.trans htn.os, hg8.tape.trans htn.tape, hg8.output.trans htn.output, Nat.le_trans htn.size hg8.size, fun j hj hm => (hg8.block j (by omega) (fun e => hm (.inr (by injection e)))).trans (htn.block j hj (fun h => hm (.inl h)))⟩
            have own8 := own_same hown (fun j e => hg8.block j (hown.lt j e).2 (fun h => by have := (hown.lt j e).1; injection h with h; omega))
            have hel : es.length = k := by rw [← HUL.out, ← HES.out, List.length_map]
            have hsl : SlAt (fun j => W7.heap.size + 2 ≤ j ∧ j < W8.heap.size) W8 (es.map Ke.t) va vc := row_slAt (n := k) (by rw [hel]; exact own8) (fun j e => ⟨by have := (own8.lt j e).1; omega, (own8.lt j e).2⟩) (fun e he => ty_same (fun j hj => hT8.block j hj.2 (by omega)) (fun j hj => ⟨hj.1, Nat.lt_of_lt_of_le hj.2 hT8.size⟩) (HEACH.out e he))
            rw [HES.out] at hsl
            have hty8 : TyAt (fun j => W7.heap.size + 2 ≤ j ∧ j < W8.heap.size) W8 u va vc := by
              refine ⟨?_, ?_, hsl⟩
              · obtain ⟨d, hd, _, hdk, _⟩ := HAL.out.symm.get HE.out
                rw [HUK.out, ← HKK.out, ← hdk]; exact HKI.out d (List.mem_of_getElem? hd)
              · rw [HUN.out]; split
                · exact hri
                · unfold I64; omega
            have hnew : ∃ ti a c, Den H ti r ∧ (Tp.size ti : Int) ≤ L - C ∧ pmPut PM (r : Int) ⟨u, va, vc⟩ (r : Int) = some ⟨ti, a, c⟩ ∧ TyAt (fun k => W7.heap.size + 2 ≤ k ∧ k < W8.heap.size) W8 ti a c := ⟨u, va, vc, HDD.out, by have := HUZ2.out; omega, by unfold pmPut; rw [if_pos rfl], hty8⟩
            have hI8 : RdI s L C H w W7 w2.heap.size (fun k => k = s ∨ k = g) (Y ++ [r]) W8 := by
              refine ⟨⟨n + 1, _, hm8, by rw [List.length_append]; exact Nat.succ_le_succ hn, fun i hi => ?_⟩, hT8.heap HI.out.box (by omega), hT8.heap HI.out.b0 (by omega), hT8.heap HI.out.b1 (by omega), hT8.heap HI.out.b2 (by omega), HI.out.keep.on hT8 (fun k hk hl => ?_)⟩
              · rcases List.mem_append.1 hi with hi | hi
                · by_cases hir : i = r
                  · rw [hir]; exact hnew
                  · obtain ⟨ti, a, c, d1, d2, d3, d4⟩ := hparts i hi
                    exact ⟨ti, a, c, d1, d2, by unfold pmPut; rw [if_neg (by omega)]; exact d3, ty_same (fun j hj => hT8.block j hj.2 (by omega)) (fun j hj => ⟨hj.1, Nat.lt_of_lt_of_le hj.2 hT8.size⟩) d4⟩
                · rw [List.mem_singleton.1 hi]; exact hnew
              · rcases hk with hk | hk
                · exact .inr hk
                · omega
            have hsv8 := hsv.same (hg8.block s (by omega) (fun e => by injection e; omega)) (hg8.block g (by omega) (fun e => by injection e; omega))
            have HD8 := Lib.hid (hT8.block W7.heap.size (by omega) (by omega)); have HD9 := Lib.hid (hT8.block (W7.heap.size + 1) (by omega) (by omega))
            have HI8 := Lib.hid hI8; have HSV8 := Lib.hid hsv8
            clear hpm hn hparts hbm hri hnn hm8 hg8 hT8 own8 hel hsl hty8 hnew hI8 hsv8 hsv htn hpb hown hbw hf hs7 hs4 hlt7 hgV hsV hlw
            gi_wp2
            exact ⟨⟨HD8.out, HD9.out⟩, HI8.out, HSV8.out, HAL.out, HMM.out⟩
  case done =>
    rintro Y ⟨m1, Hm⟩ V rfl hm1 ⟨hsv, hal, hmm⟩ hI hlt hK
    dsimp only at hsv hal hmm hm1
    subst hm1
    obtain ⟨n, PM, hpm, hn, hparts⟩ := hI.parts
    have hpy : rootOf H p ∈ trav H t p [] := Sg.trav_mem t p []
    obtain ⟨ti, ea, ec, hdi, hfit, hPM, hty⟩ := hparts _ hpy
    have hti : ti = t := Den.det hdi HD.out (HD.out.root.2)
    subst hti
    obtain ⟨i, hi⟩ : ∃ i, rootOf H p = i := ⟨_, rfl⟩
    rw [hi] at hPM hdi
    obtain ⟨dq, hdq, hdqm⟩ : ∃ d : SNd, Hm[p]? = some d ∧ d.up = i := by
      obtain ⟨d, _, hd, _⟩ := HD.out.open
      obtain ⟨e, he, heu, _⟩ := hal.get hd
      exact ⟨e, he, by rw [heu, ← hi, rootOf_some hd]⟩
    have hroot := fun x (hx : SV B s g cap L C (K + 1) x Hm) => root12_any hx hdq
    simp only [hdqm] at hroot
    have hii : I64 (i : Int) := by have := (List.getElem?_eq_some_iff.1 (show H[i]? = some _ from (hdi.open.choose_spec.choose_spec.1))).1; have := hsv.far; unfold I64; have h9 := HBD.out.n; have := HBD.out.l; have := HBD.out.cl; omega
    obtain ⟨ek, en, em, hv⟩ := TV.mk ti
    obtain ⟨ez, hez⟩ : ∃ z : Int, (Tp.size ti : Int) = z := ⟨_, rfl⟩
    have hlk := fun x (hx : Turns (fun k => k = g) V x) => pm_look (hpm.same (hx.block _ hpm.lt (fun e => by have := HF.out; have := HS4.out; omega))) hii false
    simp only [pmV, hPM, ptV, hv.1, hv.2.1, hv.2.2, hez, Bool.false_eq_true, if_false] at hlk
    have HV := Lib.hid hsv; have HAL := Lib.hid hal; have HMM := Lib.hid hmm; have HI := Lib.hid hI; have HK9 := Lib.hid hK; have HRT := Lib.hid hroot; have HLK := Lib.hid hlk; have HTYP := Lib.hid hty; have HFIT := Lib.hid hfit; have HTV := Lib.hid hv; have HEZ := Lib.hid hez; have HLT := Lib.hid hlt
    have HCELL := Lib.hid (fun x (hx : SV B s g cap L C (K + 1) x Hm ∧ Turns (fun k => k = g) V x) => (⟨cell_box (hx.2.heap HI.out.box (by have := HF.out; have := HS4.out; omega)) rfl rfl, cell_box (hx.2.heap HI.out.b0 (by have := HF.out; omega)) rfl rfl, HLK.out x hx.2⟩ : x.cell? ⟨w2.heap.size + 1, 0, none⟩ = some (.map (some w2.heap.size)) ∧ x.cell? ⟨w.heap.size, 0, none⟩ = some (.pointer (some ⟨s, 0, none⟩)) ∧ _))
    have HGV := Lib.hid (show g < V.heap.size from hsv.far.2.1); have HSV9 := Lib.hid (show s < V.heap.size from hsv.far.2.2.1)
    clear hsv hal hmm hI hK hroot hlk hty hfit hv hez hlt hparts hpm hn hpy hPM hdi hi hdq hdqm hii
    gi_upto_region 19 with fail
    refine wpIn_wide.2 ?_
    go_cut [12] from 79 (fun v wx => ∃ bb, v = .pointer (some ⟨bb, 0, none⟩) ∧ V.heap.size ≤ bb ∧ wx.heap[bb]? = some (.cells #[.int .i64 ek, .int .i64 en, .slice ea em ec, .int .i64 ez] 106) ∧ SV B s g cap L C (K + 1) wx Hm ∧ Turns (fun k => k = g) V wx)
    case first =>
      refine wp_only ?_
      obtain ⟨U0, hU0⟩ : ∃ x, V.drew = x := ⟨_, rfl⟩
      have HS0 := Lib.hid (show SV B s g cap L C (K + 1) U0 Hm ∧ Turns (fun k => k = g) V U0 by rw [← hU0]; exact ⟨HV.out.drew, Turns.drew _ _⟩)
      refine wp_region_held_drew (S := fun x => SV B s g cap L C (K + 1) x Hm ∧ Turns (fun k => k = g) V x) (by kernel_rfl) ⟨HV.out.drew, Turns.drew _ _⟩ (fun _ => ?_)
      rw [hU0]
      clear hU0
      refine wpAnyH_take (i := 0) (oi := ⟨some 79, _, _, _, _, _⟩) (v := ?_) rfl (by kernel_rfl) (by kernel_rfl) (by kernel_rfl) (fun _ _ _ h => h.elim) (Or.inl ⟨by rfl, ?_⟩) HS0.out ?_
      rotate_left
      · (intro xx hSw; obtain ⟨c0, c1, hl9⟩ := HCELL.out _ hSw; go_simp; (try with_reducible rfl))
      try simp only [Act.put, List.setIfInBounds_toArray, List.set_cons_zero, List.set_cons_succ]
      refine wpAnyH_take (i := 1) (oi := ⟨some 80, _, _, _, _, _⟩) (v := ?_) rfl (by kernel_rfl) (by kernel_rfl) (by kernel_rfl) (fun _ _ _ h => h.elim) (Or.inl ⟨by rfl, ?_⟩) HS0.out ?_
      rotate_left
      · (intro xx hSw; obtain ⟨c0, c1, hl9⟩ := HCELL.out _ hSw; go_simp; (try with_reducible rfl))
      try simp only [Act.put, List.setIfInBounds_toArray, List.set_cons_zero, List.set_cons_succ]
      refine wpAnyH_take (i := 2) (oi := ⟨some 81, _, _, _, _, _⟩) (v := ?_) rfl (by kernel_rfl) (by kernel_rfl) (by kernel_rfl) (fun _ _ _ h => h.elim) (Or.inl ⟨by rfl, ?_⟩) HS0.out ?_
      rotate_left
      · (intro xx hSw; obtain ⟨c0, c1, hl9⟩ := HCELL.out _ hSw; go_simp; (try with_reducible rfl))
      try simp only [Act.put, List.setIfInBounds_toArray, List.set_cons_zero, List.set_cons_succ]
      refine wpAnyH_ready (rs := [3, 5]) (by kernel_rfl) (by simp) ?_
      refine AllReadyH.cons (o := ⟨some 82, _, _, _, _, _⟩) rfl (fun K hK => ?_) (AllReadyH.cons (o := ⟨some 12, _, _, _, _, _⟩) rfl (fun K hK => ?_) AllReadyH.nil)
      · skip
        go_simp
        refine (HRT.out _ HS0.out.1).mono ?_
        rintro e U1 ⟨rfl, hsv, hk⟩
        have HS1 := Lib.hid (And.intro hsv (HS0.out.2.trans (Kp.turns hk)))
        clear hsv hk
        dsimp only
        refine hK.out _ _ HS1.out (fun _ => ?_)
        clear hK K
        try simp only [Act.put, List.setIfInBounds_toArray, List.set_cons_zero, List.set_cons_succ]
        refine wpAnyH_take (i := 4) (oi := ⟨some 83, _, _, _, _, _⟩) (v := ?_) rfl (by kernel_rfl) (by kernel_rfl) (by kernel_rfl) (fun _ _ _ h => h.elim) (Or.inl ⟨by rfl, ?_⟩) HS1.out ?_
        rotate_left
        · (intro xx hSw; obtain ⟨c0, c1, hl9⟩ := HCELL.out _ hSw; go_simp; (try with_reducible rfl))
        try simp only [Act.put, List.setIfInBounds_toArray, List.set_cons_zero, List.set_cons_succ]
        refine wpAnyH_ready (rs := [5]) (by kernel_rfl) (by simp) ?_
        refine AllReadyH.cons (o := ⟨some 12, _, _, _, _, _⟩) rfl (fun K hK => ?_) AllReadyH.nil
        go_simp
        obtain ⟨U2, hU⟩ : ∃ V, U1.alloc (.cells #[.int .i64 0, .int .i64 0, .slice none 0 0, .int .i64 0] 106) = V := ⟨_, rfl⟩
        rw [hU]
        have hbU : Below U1.heap.size U1 U2 := by rw [← hU]; exact (Below.refl _ _).alloc (Nat.le_refl _) _
        have HS2 := Lib.hid (And.intro (HS1.out.1.below hbU) (HS1.out.2.trans (below_turns hbU)))
        have HZB := Lib.hid (show U2.heap[U1.heap.size]? = some (.cells #[.int .i64 0, .int .i64 0, .slice none 0 0, .int .i64 0] 106) by rw [← hU]; exact World.alloc_heap_new _ _)
        have HLB := Lib.hid (show U1.heap.size < U2.heap.size by rw [← hU, World.size_alloc]; omega)
        have HBB := Lib.hid HS1.out.2.size
        clear hU hbU
        refine hK.out _ _ HS2.out (fun _ => ?_)
        clear hK K
        try simp only [Act.put, List.setIfInBounds_toArray, List.set_cons_zero, List.set_cons_succ]
        obtain ⟨z0, z1, z2, z3, z4, z5, z6, z7⟩ := zero_four HZB.out
        have hpf := put_four (F := _) (v0 := .int .i64 ek) (v1 := .int .i64 en) (v2 := .slice ea em ec) (v3 := .int .i64 ez) HZB.out rfl
        have hb9 := HBB.out
        have hgv := HGV.out
        have hsf := HS2.out.1.same (hpf.2.block s HS2.out.1.far.2.2.1 (fun e => by have := HSV9.out; omega)) (hpf.2.block g HS2.out.1.far.2.1 (fun e => by omega))
        have htf : Turns (fun k => k = g) V _ := ⟨hpf.2.os.trans HS2.out.2.os, hpf.2.tape.trans HS2.out.2.tape, hpf.2.output.trans HS2.out.2.output, Nat.le_trans HS2.out.2.size hpf.2.size, fun k hk hm => (hpf.2.block k (Nat.lt_of_lt_of_le hk HS2.out.2.size) (fun e => by omega)).trans (HS2.out.2.block k hk hm)⟩
        have HPF := Lib.hid hpf.1; have HSF := Lib.hid hsf; have HTF := Lib.hid htf
        clear hpf hb9 hgv
        refine wpAnyH_ready (rs := [6]) (by kernel_rfl) (by simp) ?_
        refine AllReadyH.cons (o := ⟨none, _, _, _, _, _⟩) rfl (fun K hK => ?_) AllReadyH.nil
        go_simp
        refine hK.out _ _ ⟨hsf, htf⟩ (fun _ => ?_)
        clear hK K hsf htf z0 z1 z2 z3 z4 z5 z6 z7
        try simp only [Act.put, List.setIfInBounds_toArray, List.set_cons_zero, List.set_cons_succ]
        refine wpAnyH_done (by kernel_rfl) ?_ _
        go_wp2_with fail
        go_meet
        case rel => exact ⟨_, rfl, HBB.out, HPF.out, HSF.out, HTF.out⟩
      · skip
        go_simp
        obtain ⟨U1, hU⟩ : ∃ V, U0.alloc (.cells #[.int .i64 0, .int .i64 0, .slice none 0 0, .int .i64 0] 106) = V := ⟨_, rfl⟩
        rw [hU]
        have hbU : Below U0.heap.size U0 U1 := by rw [← hU]; exact (Below.refl _ _).alloc (Nat.le_refl _) _
        have HS1 := Lib.hid (And.intro (HS0.out.1.below hbU) (HS0.out.2.trans (below_turns hbU)))
        have HZB := Lib.hid (show U1.heap[U0.heap.size]? = some (.cells #[.int .i64 0, .int .i64 0, .slice none 0 0, .int .i64 0] 106) by rw [← hU]; exact World.alloc_heap_new _ _)
        have HLB := Lib.hid (show U0.heap.size < U1.heap.size by rw [← hU, World.size_alloc]; omega)
        have HBB := Lib.hid HS0.out.2.size
        clear hU hbU
        refine hK.out _ _ HS1.out (fun _ => ?_)
        clear hK K
        try simp only [Act.put, List.setIfInBounds_toArray, List.set_cons_zero, List.set_cons_succ]
        refine wpAnyH_ready (rs := [3]) (by kernel_rfl) (by simp) ?_
        refine AllReadyH.cons (o := ⟨some 82, _, _, _, _, _⟩) rfl (fun K hK => ?_) AllReadyH.nil
        go_simp
        refine (HRT.out _ HS1.out.1).mono ?_
        rintro e U2 ⟨rfl, hsv, hk⟩
        have HS2 := Lib.hid (And.intro hsv (HS1.out.2.trans (Kp.turns hk)))
        have HZB := Lib.hid ((hk.block _ HLB.out (fun e => by have := HBB.out; have := HGV.out; omega)).trans HZB.out)
        have HLB := Lib.hid (Nat.lt_of_lt_of_le HLB.out hk.size)
        clear hsv hk
        dsimp only
        refine hK.out _ _ HS2.out (fun _ => ?_)
        clear hK K
        try simp only [Act.put, List.setIfInBounds_toArray, List.set_cons_zero, List.set_cons_succ]
        refine wpAnyH_take (i := 4) (oi := ⟨some 83, _, _, _, _, _⟩) (v := ?_) rfl (by kernel_rfl) (by kernel_rfl) (by kernel_rfl) (fun _ _ _ h => h.elim) (Or.inl ⟨by rfl, ?_⟩) HS2.out ?_
        rotate_left
        · (intro xx hSw; obtain ⟨c0, c1, hl9⟩ := HCELL.out _ hSw; go_simp; (try with_reducible rfl))
        try simp only [Act.put, List.setIfInBounds_toArray, List.set_cons_zero, List.set_cons_succ]
        obtain ⟨z0, z1, z2, z3, z4, z5, z6, z7⟩ := zero_four HZB.out
        have hpf := put_four (F := _) (v0 := .int .i64 ek) (v1 := .int .i64 en) (v2 := .slice ea em ec) (v3 := .int .i64 ez) HZB.out rfl
        have hb9 := HBB.out
        have hgv := HGV.out
        have hsf := HS2.out.1.same (hpf.2.block s HS2.out.1.far.2.2.1 (fun e => by have := HSV9.out; omega)) (hpf.2.block g HS2.out.1.far.2.1 (fun e => by omega))
        have htf : Turns (fun k => k = g) V _ := ⟨hpf.2.os.trans HS2.out.2.os, hpf.2.tape.trans HS2.out.2.tape, hpf.2.output.trans HS2.out.2.output, Nat.le_trans HS2.out.2.size hpf.2.size, fun k hk hm => (hpf.2.block k (Nat.lt_of_lt_of_le hk HS2.out.2.size) (fun e => by omega)).trans (HS2.out.2.block k hk hm)⟩
        have HPF := Lib.hid hpf.1; have HSF := Lib.hid hsf; have HTF := Lib.hid htf
        clear hpf hb9 hgv
        refine wpAnyH_ready (rs := [6]) (by kernel_rfl) (by simp) ?_
        refine AllReadyH.cons (o := ⟨none, _, _, _, _, _⟩) rfl (fun K hK => ?_) AllReadyH.nil
        go_simp
        refine hK.out _ _ ⟨hsf, htf⟩ (fun _ => ?_)
        clear hK K hsf htf z0 z1 z2 z3 z4 z5 z6 z7
        try simp only [Act.put, List.setIfInBounds_toArray, List.set_cons_zero, List.set_cons_succ]
        refine wpAnyH_done (by kernel_rfl) ?_ _
        go_wp2_with fail
        go_meet
        case rel => exact ⟨_, rfl, HBB.out, HPF.out, HSF.out, HTF.out⟩
    case rest =>
    obtain ⟨bb, rfl, hbb, hbx, hsv, htn⟩ := hcut
    have hf := HF.out; have hs7 := HS7.out; have hs4 := HS4.out; have hlt := HLT.out
    obtain ⟨c0, c1, c2, c3⟩ := hsv.sbox
    have e0 : wc.cell? ⟨w.heap.size, 0, none⟩ = some (.pointer (some ⟨s, 0, none⟩)) := cell_box (htn.heap HI.out.b0 (by omega)) rfl rfl
    have x3 : wc.cell? ⟨bb, 3, none⟩ = some (.int .i64 ez) := cell_box hbx rfl rfl
    have fs : wc.frozen? ⟨s, 1, none⟩ = false := IsC.frozen ⟨_, _, hsv.box⟩
    have hbd := HBD.out
    have hwr : IntKind.i64.wrap (C + ez) = C + ez := by have := HFIT.out; rw [HEZ.out] at this; have := hbd.c0; have := hbd.l; have h8 := HEZ.out; simp [IntKind.wrap, IntKind.bits, IntKind.signed]; omega
    obtain ⟨V2, hV2⟩ : ∃ x, wc.setCell ⟨s, 1, none⟩ (.int .i64 (C + ez)) = x := ⟨_, rfl⟩
    have hsv2 : SV B s g cap L (C + ez) (K + 1) V2 Hm := by rw [← hV2]; exact hsv.num 1 (C + ez) L (C + ez) (K + 1) (.inl ⟨rfl, rfl, rfl, rfl⟩)
    have htv2 : Turns (fun k => k = g ∨ k = s) V V2 := by rw [← hV2]; exact (htn.mono fun _ _ h => .inl h).trans (Turns.setCell wc ⟨s, 1, none⟩ _ (.inr rfl))
    have hbx2 : V2.heap[bb]? = some (.cells #[.int .i64 ek, .int .i64 en, .slice ea em ec, .int .i64 ez] 106) := by rw [← hV2]; exact (Below.heap_setCell _ _ _ bb (by have := HSV9.out; dsimp only; omega)).trans hbx
    have HV2 := Lib.hid hV2; have HSV2 := Lib.hid hsv2; have HTV2 := Lib.hid htv2; have HBX2 := Lib.hid hbx2; have HBB2 := Lib.hid hbb; have HWR := Lib.hid hwr
    clear hbx hsv htn hV2 hsv2 htv2 hbx2 hbb hbd hf hs7 hs4 hlt
    gi_upto_region 20 with fail
    refine wpIn_wide.2 ?_
    go_cut [90] from 84 (fun _ wx => Below V2.heap.size V2 wx)
    case first =>
      refine wp_only ?_
      go_region_law (fail)
      all_goals
        go_wp2_with fail
        go_meet
        case rel =>
          rw [HV2.out]
          exact ⟨rfl, rfl, rfl, Nat.le_refl _, fun _ _ => rfl⟩
    case rest =>
    clear c0 c1 c2 c3 e0 x3 fs hwr
    obtain ⟨w9, hw9⟩ : ∃ x, wc = x := ⟨_, rfl⟩
    rw [hw9] at hcut ⊢
    have hf := HF.out; have hs7 := HS7.out; have hs4 := HS4.out; have hlt := HLT.out
    have HSV9' := Lib.hid (HSV2.out.below hcut)
    have HT9 := Lib.hid (HTV2.out.trans (below_turns hcut))
    have hbb2 := (Array.getElem?_eq_some_iff.1 HBX2.out).1
    have hbx9 := (hcut.block bb hbb2).trans HBX2.out
    have hb1 := HT9.out.heap HI.out.b1 (by omega)
    have hb2 := HT9.out.heap HI.out.b2 (by omega)
    have hD9 := HT9.out.heap HK9.out (by omega)
    have x0 : w9.cell? ⟨bb, 0, none⟩ = some (.int .i64 ek) := cell_box hbx9 rfl rfl
    have x1 : w9.cell? ⟨bb, 1, none⟩ = some (.int .i64 en) := cell_box hbx9 rfl rfl
    have x2 : w9.cell? ⟨bb, 2, none⟩ = some (.slice ea em ec) := cell_box hbx9 rfl rfl
    have y0 : w9.cell? ⟨w.heap.size + 1, 0, none⟩ = some (.int .i64 0) := cell_box hb1 rfl rfl
    have y1 : w9.cell? ⟨w.heap.size + 1, 1, none⟩ = some (.int .i64 0) := cell_box hb1 rfl rfl
    have y2 : w9.cell? ⟨w.heap.size + 1, 2, none⟩ = some (.slice none 0 0) := cell_box hb1 rfl rfl
    have z0 : w9.cell? ⟨w.heap.size + 1 + 1, 0, none⟩ = some (.int .i64 0) := cell_box hb2 rfl rfl
    have f0 : w9.frozen? ⟨w.heap.size + 1, 0, none⟩ = false := IsC.frozen ⟨_, _, hb1⟩
    have f1 : w9.frozen? ⟨w.heap.size + 1, 1, none⟩ = false := IsC.frozen ⟨_, _, hb1⟩
    have f2 : w9.frozen? ⟨w.heap.size + 1, 2, none⟩ = false := IsC.frozen ⟨_, _, hb1⟩
    have f3 : w9.frozen? ⟨w.heap.size + 1 + 1, 0, none⟩ = false := IsC.frozen ⟨_, _, hb2⟩
    obtain ⟨F, hFF⟩ : ∃ x, (((w9.setCell ⟨w.heap.size + 1, 0, none⟩ (.int .i64 ek)).setCell ⟨w.heap.size + 1, 1, none⟩ (.int .i64 en)).setCell ⟨w.heap.size + 1, 2, none⟩ (.slice ea em ec)).setCell ⟨w.heap.size + 1 + 1, 0, none⟩ (.int .i64 0) = x := ⟨_, rfl⟩
    have hTF : Turns (fun k => k = w.heap.size + 1 ∨ k = w.heap.size + 2) w9 F := by rw [← hFF]; exact (((Turns.setCell w9 ⟨w.heap.size + 1, 0, none⟩ _ (.inl rfl)).trans (Turns.setCell _ ⟨w.heap.size + 1, 1, none⟩ _ (.inl rfl))).trans (Turns.setCell _ ⟨w.heap.size + 1, 2, none⟩ _ (.inl rfl))).trans (Turns.setCell _ ⟨w.heap.size + 1 + 1, 0, none⟩ _ (.inr rfl))
    have hFb1 : F.heap[w.heap.size + 1]? = some (.cells #[.int .i64 ek, .int .i64 en, .slice ea em ec] 26) := by rw [← hFF]; exact (Below.heap_setCell _ _ _ _ (by dsimp only; omega)).trans (box_set3 hb1)
    have hFb2 : F.heap[w.heap.size + 1 + 1]? = some (.cells #[.int .i64 0] 45) := by
      rw [← hFF]; refine box_set (A := #[.int .i64 0]) ?_
      exact (Below.heap_setCell _ _ _ _ (by dsimp only; omega)).trans ((Below.heap_setCell _ _ _ _ (by dsimp only; omega)).trans ((Below.heap_setCell _ _ _ _ (by dsimp only; omega)).trans hb2))
    have HFF := Lib.hid hFF; have HTF := Lib.hid hTF; have HFB1 := Lib.hid hFb1; have HFB2 := Lib.hid hFb2; have HD9 := Lib.hid hD9
    clear hFF hTF hFb1 hFb2 hD9 hbb2 hbx9 hb1 hb2 hcut hw9 wc hf hs7 hs4 hlt
    gi_upto_region 21 with fail
    gi_wp2
    rw [HFF.out]
    have hf := HF.out; have hs7 := HS7.out; have hs4 := HS4.out; have hlt := HLT.out
    have hD10 := HTF.out.heap HD9.out (by omega)
    obtain ⟨F', hF'⟩ : ∃ x, F.putObj W7.heap.size (.deferred none) = x := ⟨_, rfl⟩
    have far : ∀ k, k ≠ W7.heap.size → F'.heap[k]? = F.heap[k]? := fun k hk => by rw [← hF']; exact World.putObj_heap_other hk
    have g1 := (far (w.heap.size + 1) (by omega)).trans HFB1.out
    have g2 := (far (w.heap.size + 1 + 1) (by omega)).trans HFB2.out
    have r0 : F'.cell? ⟨w.heap.size + 1, 0, none⟩ = some (.int .i64 ek) := cell_box g1 rfl rfl
    have r1 : F'.cell? ⟨w.heap.size + 1, 1, none⟩ = some (.int .i64 en) := cell_box g1 rfl rfl
    have r2 : F'.cell? ⟨w.heap.size + 1, 2, none⟩ = some (.slice ea em ec) := cell_box g1 rfl rfl
    have r3 : F'.cell? ⟨w.heap.size + 1 + 1, 0, none⟩ = some (.int .i64 0) := cell_box g2 rfl rfl
    have hall : ∀ k, k < V.heap.size → ¬ (k = g ∨ k = s) → k ≠ w.heap.size + 1 → k ≠ w.heap.size + 2 → k ≠ W7.heap.size → F'.heap[k]? = V.heap[k]? := fun k hk h1 h2 h3 h4 => (far k h4).trans ((HTF.out.block k (Nat.lt_of_lt_of_le hk HT9.out.size) (by omega)).trans (HT9.out.block k hk h1))
    have hsz : V.heap.size ≤ F'.heap.size := by rw [← hF', World.putObj_size]; exact Nat.le_trans HT9.out.size HTF.out.size
    have hos : F'.os = V.os ∧ F'.tape = V.tape ∧ F'.output = V.output := by rw [← hF']; exact ⟨HTF.out.os.trans HT9.out.os, HTF.out.tape.trans HT9.out.tape, HTF.out.output.trans HT9.out.output⟩
    refine ⟨by simp, .inl ⟨_, _, rfl, run_takeDeferred hD10, ?_⟩⟩
    rw [hF']
    refine ⟨.tuple #[.agg #[.int .i64 ek, .int .i64 en, .slice ea em ec], .int .i64 0], by simp [results, Try.f25, go_sem, r0, r1, r2, r3], ⟨hos.1.trans HI.out.keep.os, hos.2.1.trans HI.out.keep.tape, hos.2.2.trans HI.out.keep.output, Nat.le_trans HI.out.keep.size hsz, fun k hk hm => (hall k (by omega) (fun h => hm (h.elim .inr .inl)) (by omega) (by omega) (by omega)).trans (HI.out.keep.block k hk hm)⟩, Hm, HAL.out, HMM.out, ?_⟩
    rw [if_pos HFIT.out, HEZ.out]
    refine ⟨⟨ea, ec, by rw [tv_of HTV.out], ty_same (fun k hk => hall k hk.2 (by omega) (by omega) (by omega) (by omega)) (fun k hk => ⟨by omega, by omega⟩) HTYP.out⟩, ?_⟩
    exact HSV9'.out.same ((far s (by omega)).trans (HTF.out.block s (by have := HT9.out.size; have := HSV9.out; omega) (by omega))) ((far g (by omega)).trans (HTF.out.block g (by have := HT9.out.size; have := HGV.out; omega) (by omega)))
  case stop =>
    rintro c Y ⟨m1, Hm⟩ V hm1 ⟨hsv, hal, hmm⟩ hX hlt hK
    dsimp only at hsv hal hmm hm1
    subst hm1
    obtain ⟨rfl, hbig, hb1, hb2, hkp⟩ := hX
    gi_wp2
    have hf := HF.out; have hs7 := HS7.out
    obtain ⟨F', hF'⟩ : ∃ x, V.putObj W7.heap.size (.deferred none) = x := ⟨_, rfl⟩
    have far : ∀ k, k ≠ W7.heap.size → F'.heap[k]? = V.heap[k]? := fun k hk => by rw [← hF']; exact World.putObj_heap_other hk
    have g1 := (far (w.heap.size + 1) (by omega)).trans hb1
    have g2 := (far (w.heap.size + 1 + 1) (by omega)).trans hb2
    have r0 : F'.cell? ⟨w.heap.size + 1, 0, none⟩ = some (.int .i64 0) := cell_box g1 rfl rfl
    have r1 : F'.cell? ⟨w.heap.size + 1, 1, none⟩ = some (.int .i64 0) := cell_box g1 rfl rfl
    have r2 : F'.cell? ⟨w.heap.size + 1, 2, none⟩ = some (.slice none 0 0) := cell_box g1 rfl rfl
    have r3 : F'.cell? ⟨w.heap.size + 1 + 1, 0, none⟩ = some (.int .i64 7) := cell_box g2 rfl rfl
    refine ⟨by simp, .inl ⟨_, _, rfl, run_takeDeferred hK, ?_⟩⟩
    rw [hF']
    refine ⟨.tuple #[.agg #[.int .i64 0, .int .i64 0, .slice none 0 0], .int .i64 7], by simp [results, Try.f25, go_sem, r0, r1, r2, r3], ⟨by rw [← hF']; exact hkp.os, by rw [← hF']; exact hkp.tape, by rw [← hF']; exact hkp.output, by rw [← hF', World.putObj_size]; exact hkp.size, fun k hk hm => (far k (by omega)).trans (hkp.block k hk hm)⟩, Hm, hal, hmm, ?_⟩
    rw [if_neg (by omega)]
    exact ⟨rfl, hsv.same (far s (by omega)) (far g (by omega))⟩
end
end Go.Proofs.Yteolbbgnkbcfmaa

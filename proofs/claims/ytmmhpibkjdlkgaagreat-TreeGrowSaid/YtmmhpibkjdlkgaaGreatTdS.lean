/- tree.Anns, walked. -/
import Derived.Test.YtmmhpibkjdlkgaaGreatTdP
import Derived.Test.YtmmhpibkjdlkgaaGreatTcK
import Derived.Laws.OwnMore
import Derived.Test.YtmmhpibkjdlkgaaGreatTnB
namespace Go.Proofs.YtmmhpibkjdlkgaaGreat
open Go Go.RowKit Go.Shelf
open Ex (E)
open Dx (D)

attribute [local go_sem] Oper.semAt_some

theorem Ab.row (base b0 : Nat) (e : TypeId) (sz : Nat) (v : Value) (n : Nat) (xs : List Value) : Ab base fun M W => W.ownsRow b0 e sz v n xs ∧ ∀ g, v.ownBlock = some g → ¬ M g := fun M M' A B h _ hT hM => by
  refine ⟨own_same h.1 fun g hg => hT.block g (h.1.lt g hg).2 (h.2 g hg), fun g hg x => ?_⟩
  rcases (hM g x).1 with y | y
  · exact h.2 g hg y
  · have := (h.1.lt g hg).2; omega
/-- A type by value: where its kids' slice leads. -/
structure Ty3 where
  t : Tp.T
  a : Option Addr
  cap : Nat
def Ty3.cells (x : Ty3) : List Value := [.int .i64 x.t.kind, .int .i64 x.t.num, .slice x.a x.t.kids.length x.cap]
def tyCells (l : List Ty3) : List Value := l.flatMap Ty3.cells
/-- A row of types of the call's own. -/
def TyRowG (G : Nat → Prop) (w : World) (L : List Tp.T) (W : World) (v : Value) : Prop := ∃ ls : List Ty3, ls.map Ty3.t = L ∧ (∀ x ∈ ls, TyAt G W x.t x.a x.cap) ∧ W.ownsRow w.heap.size 26 3 v L.length (tyCells ls)
def TyRow (w : World) (L : List Tp.T) (W : World) (v : Value) : Prop := ∃ ls : List Ty3, ls.map Ty3.t = L ∧ (∀ x ∈ ls, TyAt (LT (w.heap.size + 1)) W x.t x.a x.cap) ∧ W.ownsRow w.heap.size 26 3 v L.length (tyCells ls)
theorem lies_noneG {G : Nat → Prop} {n : Nat} {W : World} {d : D} (h : Lies G W d) (hG : ∀ b, G b → b < n) : d.b < n ∧ KCell W d ∧ NoneAt W d.b (d.o + 8) (Tp.none d.e.a) ∧ NoneAt W d.b (d.o + 11) (Tp.none d.e.b) := by
  obtain ⟨h1, h2, h3, h4⟩ := h
  obtain ⟨a, ac, _, a0, a1, a2⟩ := h3.ty
  obtain ⟨b, bc, _, b0, b1, b2⟩ := h4.ty
  exact ⟨hG _ h1, h2, ⟨_, a, ac, a0, a1, a2, rfl⟩, ⟨_, b, bc, b0, b1, b2, rfl⟩⟩
theorem ExAt.boxedG {G G' : Nat → Prop} {W V : World} {e : Ex.E} {s : Leads} {b : Nat} (h : ExAt G W e s) (hG0 : ∀ y, G y → y < W.heap.size) (hG : ∀ y, G y → G' y) (hb : Below W.heap.size W V) (hx : V.heap[b]? = some (.cells (evCells e s).toArray 30)) : ENode G' V e b 0 := by
  have hc : ∀ y o, G y → V.cell? ⟨y, o, none⟩ = W.cell? ⟨y, o, none⟩ := fun y o hy => hb.cell (p := ⟨y, o, none⟩) (hG0 y hy)
  obtain ⟨h0, hta, htb, hlp, hps, hlk, hks⟩ := h
  have ta := hta.below hb hG0 hG
  have tb := htb.below hb hG0 hG
  have ps := PKids.mono hc hG _ _ hps
  have ks := EKids.mono hc hG _ _ hks
  cases e with
  | mk k f t nm ar num str op A B pl l =>
    simp only [ENode]
    exact ⟨⟨h0, cell_box hx rfl rfl, cell_box hx rfl rfl, cell_box hx rfl rfl, cell_box hx rfl rfl, cell_box hx rfl rfl, cell_box hx rfl rfl, cell_box hx rfl rfl, cell_box hx rfl rfl, NodeAt.mk' ta (cell_box hx rfl rfl) (cell_box hx rfl rfl) (cell_box hx rfl rfl), NodeAt.mk' tb (cell_box hx rfl rfl) (cell_box hx rfl rfl) (cell_box hx rfl rfl), s.pa, s.pc, cell_box hx rfl rfl, hlp.1, hlp.2, ps⟩, s.ka, s.kc, cell_box hx rfl rfl, hlk.1, hlk.2, ks⟩
theorem ann_at {d : D} {pre : List (Option Addr)} {x : Option Addr} {G : Nat → Prop} {W : World} (hl : ∀ k ∈ Dx.pre d 1, Lies G W k.1) (h : ∃ rest, pre ++ x :: rest = Dx.annsAll d) {L : List Tp.T} (hL : (Dx.pre d 1).flatMap (fun k => annT k.1.e.a k.1.e.b) = L) :
    ∃ (t : Tp.T) (b o : Nat), x = some ⟨b, o, none⟩ ∧ G b ∧ NodeAt G W t b o ∧ L.take (pre.length + 1) = L.take pre.length ++ [t] ∧ pre.length < L.length := by
  obtain ⟨P, hP⟩ : ∃ P, (Dx.pre d 1).flatMap annP = P := ⟨_, rfl⟩
  have h1 : P.map Prod.snd = Dx.annsAll d := by rw [← hP, List.map_flatMap, Dx.annsAll]; congr 1; funext k; exact annP_snd k
  have h2 : P.map Prod.fst = L := by rw [← hP, List.map_flatMap, ← hL]; congr 1; funext k; exact annP_fst k
  obtain ⟨rest, hr⟩ := h
  rw [← h1] at hr
  have hlen : pre.length < P.length := by have := congrArg List.length hr; simp at this; omega
  have hx : (P[pre.length]).2 = x := by
    have : (P.map Prod.snd)[pre.length]? = some x := by rw [← hr]; simp
    rw [List.getElem?_map, List.getElem?_eq_getElem hlen] at this
    simpa using this
  have hm : P[pre.length] ∈ (Dx.pre d 1).flatMap annP := by rw [hP]; exact List.getElem_mem hlen
  obtain ⟨k, hk, hk2⟩ := List.mem_flatMap.1 hm
  obtain ⟨g1, _, g3, g4⟩ := hl k hk
  have hL2 : L.take (pre.length + 1) = L.take pre.length ++ [(P[pre.length]).1] := by
    rw [← h2]
    rw [List.take_succ_eq_append_getElem (by simpa using hlen)]; simp
  unfold annP at hk2
  rcases List.mem_append.1 hk2 with h | h
  · split at h
    · cases h
    · obtain e := List.mem_singleton.1 h
      rw [e] at hx hL2
      exact ⟨_, k.1.b, k.1.o + 8, hx.symm, g1, g3, hL2, by rw [← h2, List.length_map]; exact hlen⟩
  · split at h
    · cases h
    · obtain e := List.mem_singleton.1 h
      rw [e] at hx hL2
      exact ⟨_, k.1.b, k.1.o + 11, hx.symm, g1, g4, hL2, by rw [← h2, List.length_map]; exact hlen⟩
theorem own_base {w : World} {b b' : Nat} {e : TypeId} {sz : Nat} {v : Value} {n : Nat} {xs : List Value} (h : w.ownsRow b e sz v n xs) (hb : b' ≤ b) : w.ownsRow b' e sz v n xs := by
  obtain ⟨h1, h2 | ⟨g, cap, cur, h3, h4, h5⟩⟩ := h
  · exact ⟨h1, .inl h2⟩
  · exact ⟨h1, .inr ⟨g, cap, cur, h3, Nat.le_trans hb h4, h5⟩⟩
namespace Ex
mutual
theorem anns_len : ∀ e : E, (anns e).length ≤ 2 * size e
  | .mk k f t nm ar n s op A B ps l => by
    have h := annss_len l
    have h2 : (annT A B).length ≤ 2 := by unfold annT; split <;> split <;> simp
    rw [anns, List.length_append, size]; omega
theorem annss_len : ∀ l : List E, (annss l).length ≤ 2 * sizes l
  | [] => by simp [annss]
  | x :: r => by
    have h1 := anns_len x
    have h2 := annss_len r
    rw [annss, List.length_append, sizes]; omega
end
end Ex
theorem ann_count {d : D} {L : List Tp.T} (hL : (Dx.pre d 1).flatMap (fun k => annT k.1.e.a k.1.e.b) = L) : (Dx.annsAll d).length = L.length := by
  have h1 : ((Dx.pre d 1).flatMap annP).map Prod.snd = Dx.annsAll d := by rw [List.map_flatMap, Dx.annsAll]; congr 1; funext k; exact annP_snd k
  have h2 : ((Dx.pre d 1).flatMap annP).map Prod.fst = L := by rw [List.map_flatMap, ← hL]; congr 1; funext k; exact annP_fst k
  rw [← h1, ← h2, List.length_map, List.length_map]
theorem info_tyA : (Tryz.prog.info? 26).map (fun i => (i.zero, i.size, i.bytes)) = some (some (.agg #[.int .i64 0, .int .i64 0, .slice none 0 0]), 3, 40) := by kernel_rfl
set_option maxRecDepth 100000 in
set_option maxHeartbeats 4000000 in
theorem anns_anyG (G : Nat → Prop) (e : E) (s : Leads) (w : World) (hf : Ex.FineAll e) (hG0 : ∀ b, G b → b < w.heap.size) (h0 : ExAt G w e s) :
    Calls Tryz.prog 29 #[ev e s] w fun r w' => ∃ v, r = .returned v ∧ TyRowG (fun b => G b ∨ b = w.heap.size) w (if Ex.right e then Ex.anns e else []) w' v ∧ Below w.heap.size w w' := by
  have h : ExAt (LT w.heap.size) w e s := h0.mono (fun _ _ _ => rfl) hG0
  have hG9 : ∀ b, (G b ∨ b = w.heap.size) → b < w.heap.size + 1 := fun b hb => by
    rcases hb with hb | hb
    · have := hG0 b hb; omega
    · omega
  have H0 := Lib.hid h0; have HG0 := Lib.hid hG0; have HG9 := Lib.hid hG9
  clear h0 hG0 hG9
  have HCK := Lib.hid (fun w1 h => check_anyE e s w1 hf h)
  refine callsIn_wide (n := 9) |>.1 ?_
  have HE := Lib.hid h; clear h
  have H30 := Lib.hid (fun b w => annotations_any (.pointer (some ⟨b, 0, none⟩)) ⟨_, rfl⟩ w)
  obtain ⟨x0, x1, x2, x3, x4, x5, x6, x7, x8, x9, x10, x11, x12, x13, x14, x15, hc⟩ : ∃ x0 x1 x2 x3 x4 x5 x6 x7 x8 x9 x10 x11 x12 x13 x14 x15, evCells e s = [x0, x1, x2, x3, x4, x5, x6, x7, x8, x9, x10, x11, x12, x13, x14, x15] := ⟨_, _, _, _, _, _, _, _, _, _, _, _, _, _, _, _, rfl⟩
  have hbox : ∀ w, (Instr.box 30 (.agg #[x0, x1, x2, x3, x4, x5, x6, x7, x8, x9, x10, x11, x12, x13, x14, x15])).run Tryz.prog w = .ok (.pointer (some ⟨w.heap.size, 0, none⟩)) (w.alloc (.cells #[x0, x1, x2, x3, x4, x5, x6, x7, x8, x9, x10, x11, x12, x13, x14, x15] 30)) := by
    intro w; rfl
  unfold ev at HCK ⊢
  rw [hc] at HCK ⊢
  have HC := Lib.hid hc
  clear hc
  refine callsIn_of_wp_marks Tryz.func29 rfl trivial ?_ rfl
  simp only [Tryz.ntmps29, List.size_toArray, List.length_cons, List.length_nil, Nat.reduceAdd, Nat.reduceSub, Array.replicate_succ, Array.replicate_zero, List.push_toArray, List.append_toArray, List.nil_append, List.cons_append]
  obtain ⟨W2, hW2⟩ : ∃ W2, [Obj.cells #[x0, x1, x2, x3, x4, x5, x6, x7, x8, x9, x10, x11, x12, x13, x14, x15] 30].foldl World.alloc w = W2 := ⟨_, rfl⟩
  have hb2 : Below w.heap.size w W2 := by rw [← hW2]; exact allocs_below _ _ (Nat.le_refl _)
  have hx0 : W2.heap[w.heap.size]? = some (.cells #[x0, x1, x2, x3, x4, x5, x6, x7, x8, x9, x10, x11, x12, x13, x14, x15] 30) := by rw [← hW2]; exact allocs_get _ w 0 _ rfl
  have hs2 : W2.heap.size = w.heap.size + 1 := by rw [← hW2]; exact allocs_size _ _
  have HB2 := Lib.hid hb2; have HX0 := Lib.hid hx0; have HS2 := Lib.hid hs2; have HW2 := Lib.hid (show w.alloc (.cells #[x0, x1, x2, x3, x4, x5, x6, x7, x8, x9, x10, x11, x12, x13, x14, x15] 30) = W2 from hW2)
  have c0 : W2.cell? ⟨w.heap.size, 0, none⟩ = some x0 := cell_box (i := 0) hx0 rfl rfl
  have c1 : W2.cell? ⟨w.heap.size, 1, none⟩ = some x1 := cell_box (i := 1) hx0 rfl rfl
  have c2 : W2.cell? ⟨w.heap.size, 2, none⟩ = some x2 := cell_box (i := 2) hx0 rfl rfl
  have c3 : W2.cell? ⟨w.heap.size, 3, none⟩ = some x3 := cell_box (i := 3) hx0 rfl rfl
  have c4 : W2.cell? ⟨w.heap.size, 4, none⟩ = some x4 := cell_box (i := 4) hx0 rfl rfl
  have c5 : W2.cell? ⟨w.heap.size, 5, none⟩ = some x5 := cell_box (i := 5) hx0 rfl rfl
  have c6 : W2.cell? ⟨w.heap.size, 6, none⟩ = some x6 := cell_box (i := 6) hx0 rfl rfl
  have c7 : W2.cell? ⟨w.heap.size, 7, none⟩ = some x7 := cell_box (i := 7) hx0 rfl rfl
  have c8 : W2.cell? ⟨w.heap.size, 8, none⟩ = some x8 := cell_box (i := 8) hx0 rfl rfl
  have c9 : W2.cell? ⟨w.heap.size, 9, none⟩ = some x9 := cell_box (i := 9) hx0 rfl rfl
  have c10 : W2.cell? ⟨w.heap.size, 10, none⟩ = some x10 := cell_box (i := 10) hx0 rfl rfl
  have c11 : W2.cell? ⟨w.heap.size, 11, none⟩ = some x11 := cell_box (i := 11) hx0 rfl rfl
  have c12 : W2.cell? ⟨w.heap.size, 12, none⟩ = some x12 := cell_box (i := 12) hx0 rfl rfl
  have c13 : W2.cell? ⟨w.heap.size, 13, none⟩ = some x13 := cell_box (i := 13) hx0 rfl rfl
  have c14 : W2.cell? ⟨w.heap.size, 14, none⟩ = some x14 := cell_box (i := 14) hx0 rfl rfl
  have c15 : W2.cell? ⟨w.heap.size, 15, none⟩ = some x15 := cell_box (i := 15) hx0 rfl rfl
  clear hb2 hx0 hs2 hW2
  cases hr : Ex.right e with
  | false =>
    rw [hr] at HCK
    gi_upto_region 1 with fail
    rw [HW2.out]
    gi_wp2_with (refine ⟨trivial, ?_⟩; gi_at_call 16; refine (callsIn_wide.2 (HCK.out _ ?_)).mono ?_; (· exact HE.out.mono (fun b o h => HB2.out.cell (p := ⟨b, o, none⟩) h) (fun b h => Nat.lt_of_lt_of_le h HB2.out.size)); rintro e w1 ⟨rfl, hb1⟩; have HB1 := Lib.hid hb1; clear hb1)
    refine ⟨_, results_tmp rfl _ _ _, .slice none 0 0, rfl, ⟨[], rfl, fun _ h => (by cases h), World.ownsRow_nil _ _ _ _⟩, HB2.out.trans (HB1.out.mono (by have := HS2.out; omega))⟩
  | true =>
    rw [hr] at HCK
    gi_upto_region 1 with fail
    rw [HW2.out]
    gi_wp2_with (first | (refine ⟨trivial, ?_⟩; gi_at_call 16; refine (callsIn_wide.2 (HCK.out _ ?_)).mono ?_; (· exact HE.out.mono (fun b o h => HB2.out.cell (p := ⟨b, o, none⟩) h) (fun b h => Nat.lt_of_lt_of_le h HB2.out.size)); rintro e w1 ⟨rfl, hb1⟩; have HB1 := Lib.hid hb1; clear hb1) | (refine ⟨trivial, ?_⟩; gi_at_call 72; refine (callsIn_wide.2 (H30.out _ _)).mono ?_; rintro e w' ⟨rfl, rfl⟩))
    obtain ⟨W4, hW4⟩ : ∃ W4, [Obj.cells #[.slice none 0 0] 24, .cells #[.pointer (some ⟨w.heap.size, 0, none⟩)] 68].foldl World.alloc w1 = W4 := ⟨_, rfl⟩
    try rw [show (w1.alloc (.cells #[.slice none 0 0] 24)).alloc (.cells #[.pointer (some ⟨w.heap.size, 0, none⟩)] 68) = W4 from hW4]
    have hs4 : W4.heap.size = w1.heap.size + 2 := by rw [← hW4]; exact allocs_size _ _
    have hb14 : Below w1.heap.size w1 W4 := by rw [← hW4]; exact allocs_below _ _ (Nat.le_refl _)
    have hp1 : w.heap.size + 1 ≤ w1.heap.size := by have := HB1.out.size; have := HS2.out; omega
    have hb4 : Below w.heap.size w W4 := (HB2.out.trans (HB1.out.mono (by have := HS2.out; omega))).trans (hb14.mono (by omega))
    have hx : W4.heap[w.heap.size]? = some (.cells #[x0, x1, x2, x3, x4, x5, x6, x7, x8, x9, x10, x11, x12, x13, x14, x15] 30) := (hb14.block _ (by omega)).trans ((HB1.out.block _ (by have := HS2.out; omega)).trans HX0.out)
    have hx2 : W4.heap[w1.heap.size]? = some (.cells #[.slice none 0 0] 24) := by rw [← hW4]; exact allocs_get _ w1 0 _ rfl
    have hx3 : W4.heap[w1.heap.size + 1]? = some (.cells #[.pointer (some ⟨w.heap.size, 0, none⟩)] 68) := by rw [← hW4]; exact allocs_get _ w1 1 _ rfl
    clear hW4
    have hen : ENode (fun b => G b ∨ b = w.heap.size) W4 e w.heap.size 0 := H0.out.boxedG HG0.out (fun _ h => .inl h) hb4 (by rw [HC.out]; exact hx)
    obtain ⟨d, d1, d2, d3, d4, d5⟩ := placed (G := fun b => G b ∨ b = w.heap.size) e w.heap.size 0 (.inr rfl) hen
    obtain ⟨L, hL⟩ : ∃ L, Ex.anns e = L := ⟨_, rfl⟩
    have hAT := fun (pre : List (Option Addr)) (x : Option Addr) h => ann_at (pre := pre) (x := x) (d4 1) h ((d5 1).trans hL)
    have hal4 : AllAt (w.heap.size + 1) d W4 := fun k hk => lies_noneG (d4 1 k hk) HG9.out
    have hLs : L.length ≤ 20000 := by have h1 := Ex.anns_len e; have h2 := hf.1; rw [← hL]; omega
    have hLc := ann_count ((d5 1).trans hL)
    have HAT := Lib.hid hAT; have HAL := Lib.hid hal4; have HL := Lib.hid hL; have HLS := Lib.hid hLs; have HD5 := Lib.hid (d5 1)
    have HLC := Lib.hid hLc
    clear hAT hal4 hL hLs hLc d4 d5 hen hx d1
    refine wpIn_range_at (gf := 105) (lb := #[.pointer (some ⟨w1.heap.size + 1, 0, none⟩)]) rfl (enters_of Tryz.func105 (by kernel_rfl) rfl)
      (annAll_seq (fun k => w.heap.size + 1 ≤ k) (w1.heap.size + 1) (w.heap.size + 1) d W4 (by have := hf.1; omega) (by rw [d2]; exact cell_box hx3 rfl rfl) HAL.out (by omega) (fun k h => by omega))
      (fun _ _ _ _ _ h => h) (Below.refl _ _) (fun k h => by omega) (fun _ => rfl)
      (fun M pre U => (∃ v ls, (U.heap[w1.heap.size]? = some (.cells #[v] 24) ∧ ¬ M w1.heap.size) ∧ (U.ownsRow (w1.heap.size + 2) 26 3 v pre.length (tyCells ls) ∧ ∀ g, v.ownBlock = some g → ¬ M g) ∧ (ls.map Ty3.t = L.take pre.length ∧ ls.length = pre.length ∧ ∀ x ∈ ls, TyAt (fun b => G b ∨ b = w.heap.size) W4 x.t x.a x.cap)) ∧ Below (w.heap.size + 1) W4 U)
      (fun _ _ _ _ => True) (fun _ _ _ _ => False)
      (fun x a' _ _ => a' = { tmps := #[.agg #[x0, x1, x2, x3, x4, x5, x6, x7, x8, x9, x10, x11, x12, x13, x14, x15], .pointer (some ⟨w.heap.size, 0, none⟩), .slice none 0 0, .pointer (some ⟨w1.heap.size, 0, none⟩), .pointer x, .agg #[x0, x1, x2, x3, x4, x5, x6, x7, x8, x9, x10, x11, x12, x13, x14, x15], .int .i64 (errOf true), .bool false, .func (.func 105) #[] #[.pointer (some ⟨w1.heap.size + 1, 0, none⟩)], .pointer x, undef, undef, undef, undef, undef, undef, undef, undef, undef], defers := [] })
      (fun s => Ab.and (Ab.ex fun v => Ab.ex fun ls => Ab.and (Ab.block _ _ _) (Ab.and (Ab.row _ _ _ _ _ _ _) (Ab.pure _ _))) (Ab.below (by omega) W4 (by omega))) (fun _ _ => Ab.pure _ _) (fun _ _ => Ab.pure _ _)
      ⟨⟨.slice none 0 0, [], ⟨hx2, fun h => h⟩, ⟨World.ownsRow_nil _ _ _ _, fun g hg => (by cases hg)⟩, ⟨rfl, rfl, fun _ h => (by cases h)⟩⟩, Below.refl _ _⟩ (fun _ _ => Ab.pure _ _) trivial ?next ?assign ?body ?done ?stop
    case next =>
      rintro M pre y U ⟨_, hb⟩ _ _ _
      exact HAL.out.below hb
    case assign =>
      intro l M pre x U K hi hM hok hf hK
      clear hx2 hx3 hi c0 c1 c2 c3 c4 c5 c6 c7 c8 c9 c10 c11 c12 c13 c14 c15
      gi_wp2
      exact hK _ _ (Turns.refl _ _) (by simp)
    case body =>
      rintro l M pre x a' U ⟨⟨v, ls, ⟨hlb, hlM⟩, ⟨hrow, hrM⟩, ⟨hls1, hls2, hls3⟩⟩, hb⟩ hM hle hok _ rfl
      obtain ⟨t, b, o, rfl, hGG, hN, htake, hlt⟩ := HAT.out pre x hok
      have hG : LT (w.heap.size + 1) b := HG9.out b hGG
      clear hGG
      obtain ⟨ta, tc, hty, t0, t1, t2⟩ := hN.ty
      obtain ⟨av, cv, rfl⟩ := own_shapeT hrow
      have e0 := (hb.cell (p := ⟨b, o, none⟩) hG).trans t0
      have e1 := (hb.cell (p := ⟨b, o + 1, none⟩) hG).trans t1
      have e2 := (hb.cell (p := ⟨b, o + 2, none⟩) hG).trans t2
      obtain ⟨m, hm⟩ : ∃ m, pre.length = m := ⟨_, rfl⟩
      rw [hm] at hlb hrow hrM htake hlt hls1 hls2
      have hml : m ≤ 20000 := by have := HLS.out; omega
      have cl : U.cell? ⟨w1.heap.size, 0, none⟩ = some (.slice av m cv) := cell_box hlb rfl rfl
      have fl : U.frozen? ⟨w1.heap.size, 0, none⟩ = false := Boxed.frozen hlb
      have hlU : w1.heap.size < U.heap.size := (Array.getElem?_eq_some_iff.1 hlb).1
      have hbU : b < U.heap.size := Nat.lt_of_lt_of_le hG (by omega)
      obtain ⟨i0, hi, hz0, hz1, hz2⟩ := info_parts info_tyA
      obtain ⟨g2, cap2, w2, hap, own2, gr2, ly2, hg2⟩ := run_append_lies (P := Tryz.prog) (w := (U.alloc (.cells #[.int .i64 0, .int .i64 0, .slice none 0 0] 26)).drew) 24 24 (w1.heap.size + 2) 26 i0 (.agg #[.int .i64 0, .int .i64 0, .slice none 0 0]) 3 40 Tryz.underlying24 hi hz0 hz1 hz2 rfl (by decide) (.slice av m cv) m (tyCells ls) (hrow.alloc _) ⟨U.heap.size, 0, none⟩ 1 1 [.int .i64 0, .int .i64 0, .slice none 0 0] rfl (World.news_of_block (World.alloc_heap_new U _)) (by intro u hu; simp only [List.mem_cons, List.not_mem_nil, or_false] at hu; rcases hu with rfl | rfl | rfl <;> rfl) (by decide) (by unfold maxLen; omega) (by omega) (by show w1.heap.size + 2 ≤ (U.alloc _).heap.size; rw [World.size_alloc]; omega) (U.heap.size + 1) (by show (U.alloc _).heap.size = _; rw [World.size_alloc])
      have htl : (tyCells ls).length = m * 3 := by rw [← hls2]; clear hls1 hls2 hls3 hrow own2; induction ls with
        | nil => rfl
        | cons y r ih => simp only [tyCells, List.flatMap_cons, List.length_append, List.length_cons] at ih ⊢; rw [ih]; simp [Ty3.cells]; omega
      have hlne : ∀ k, k < w1.heap.size + 2 → (Value.slice av m cv).ownBlock ≠ some k := fun k hk e => by have := (hrow.lt k e).1; omega
      have hk2 : ∀ k, k < w1.heap.size + 2 → k < U.heap.size → w2.heap[k]? = U.heap[k]? := fun k h1 h2 => (gr2.block k (by show k < (U.alloc _).heap.size; rw [World.size_alloc]; omega) (fun e => hlne k h1 e.symm)).trans (Below.heap_alloc _ _ _ h2)
      have hlb2 := (hk2 _ (by omega) hlU).trans hlb
      have cl2 : w2.cell? ⟨w1.heap.size, 0, none⟩ = some (.slice av m cv) := cell_box hlb (hk2 _ (by omega) hlU) rfl
      have fl2 : w2.frozen? ⟨w1.heap.size, 0, none⟩ = false := Boxed.frozen hlb2
      have hb2' : b < w1.heap.size + 2 := by have : b < w.heap.size + 1 := hG; omega
      have y0 := (World.cell?_of_block (a := ⟨b, o, none⟩) (hk2 b hb2' hbU)).trans e0
      have y1 := (World.cell?_of_block (a := ⟨b, o + 1, none⟩) (hk2 b hb2' hbU)).trans e1
      have y2 := (World.cell?_of_block (a := ⟨b, o + 2, none⟩) (hk2 b hb2' hbU)).trans e2
      have hz : ∀ i, w2.frozen? ⟨g2, i, none⟩ = false := fun i => own2.frozenAt i
      have hc2 := own2.cells (g := g2) rfl
      have q0 : w2.cell? ⟨g2, m * 3, none⟩ = some (.int .i64 0) := by
        have := hc2 (m * 3) (.int .i64 0) (by rw [← htl, List.getElem?_append_right (Nat.le_refl _), Nat.sub_self]; rfl)
        rwa [add_flat, Nat.zero_add] at this
      have q1 : w2.cell? ⟨g2, m * 3 + 1, none⟩ = some (.int .i64 0) := by
        have := hc2 (m * 3 + 1) (.int .i64 0) (by rw [← htl, List.getElem?_append_right (by omega), Nat.add_sub_cancel_left]; rfl)
        rwa [add_flat, Nat.zero_add] at this
      have q2 : w2.cell? ⟨g2, m * 3 + 2, none⟩ = some (.slice none 0 0) := by
        have := hc2 (m * 3 + 2) (.slice none 0 0) (by rw [← htl, List.getElem?_append_right (by omega), Nat.add_sub_cancel_left]; rfl)
        rwa [add_flat, Nat.zero_add] at this
      have hmm : (m : Int) < (m : Int) + 1 := by omega
      have hgb : b ≠ g2 := fun e => by have := (own2.lt g2 rfl).1; omega
      have hlg : w1.heap.size ≠ g2 := fun e => by have := (own2.lt g2 rfl).1; omega
      have hlbn : b ≠ w1.heap.size := fun e => by have : b < w.heap.size + 1 := hG; omega
      have hm63 : (m : Int) ≤ 20000 := by omega
      have hm2 : Tryz.prog.follows .mixedOrders = true := by kernel_rfl
      have HB := Lib.hid hb; have HRM := Lib.hid hrM; have HLM := Lib.hid hlM; have H1 := Lib.hid hls1; have H2 := Lib.hid hls2; have H3 := Lib.hid hls3; have HTK := Lib.hid htake; have HTY := Lib.hid hty; have HLT := Lib.hid hlt; have HROW := Lib.hid hrow; have HOWN := Lib.hid own2; have HGR := Lib.hid gr2; have HLY := Lib.hid ly2; have HG2 := Lib.hid hg2; have HTL := Lib.hid htl; have HK2 := Lib.hid hk2; have HLB := Lib.hid hlb2; have HM := Lib.hid hM; have HMM := Lib.hid hm
      clear hx2 hx3 hb hrM hlM hls1 hls2 hls3 htake hty hlt hrow own2 gr2 ly2 hg2 htl hk2 hlb2 hlb hlne hc2 hi hz0 hz1 hz2 hM hN t0 t1 t2 hok hm c0 c1 c2 c3 c4 c5 c6 c7 c8 c9 c10 c11 c12 c13 c14 c15
      gi_upto_region 6 with fail
      refine wpIn_end ?aA ?aW (fun R hR => ?aF) ?aR
      case aF =>
        refine wpIn_region_round hm2 (by kernel_rfl) (by rintro ⟨_, _, h⟩; exact h) ?_
        refine wpAny_of_held (S := fun x => x.cell? ⟨b, o, none⟩ = some (.int .i64 t.kind) ∧ x.cell? ⟨b, o + 1, none⟩ = some (.int .i64 t.num) ∧ x.cell? ⟨b, o + 2, none⟩ = some (.slice ta t.kids.length tc)) _ _ _ _ ?_
        have hS : U.drew.cell? ⟨b, o, none⟩ = some (.int .i64 t.kind) ∧ U.drew.cell? ⟨b, o + 1, none⟩ = some (.int .i64 t.num) ∧ U.drew.cell? ⟨b, o + 2, none⟩ = some (.slice ta t.kids.length tc) := ⟨e0, e1, e2⟩
        refine wpAnyH_take (i := 1) (oi := ⟨some 11, _, _, _, _, _⟩) (v := ?_) rfl (by kernel_rfl) (by kernel_rfl) (by kernel_rfl) (fun _ _ _ h => h.elim) (Or.inl ⟨by rfl, ?_⟩) (by assumption) ?_
        rotate_left
        · (intro w hSw; (try dsimp only at hSw); (try obtain ⟨s0, s1, s2⟩ := hSw); go_simp; (try with_reducible rfl))
        try simp only [Act.put, List.setIfInBounds_toArray, List.set_cons_zero, List.set_cons_succ]
        refine wpAnyH_take (i := 2) (oi := ⟨some 12, _, _, _, _, _⟩) (v := ?_) rfl (by kernel_rfl) (by kernel_rfl) (by kernel_rfl) (fun _ _ _ h => h.elim) (Or.inl ⟨by rfl, ?_⟩) (by assumption) ?_
        rotate_left
        · (intro w hSw; (try dsimp only at hSw); (try obtain ⟨s0, s1, s2⟩ := hSw); go_simp; (try with_reducible rfl))
        try simp only [Act.put, List.setIfInBounds_toArray, List.set_cons_zero, List.set_cons_succ]
        refine wpAnyH_take (i := 3) (oi := ⟨some 13, _, _, _, _, _⟩) (v := ?_) rfl (by kernel_rfl) (by kernel_rfl) (by kernel_rfl) (fun _ _ _ h => h.elim) (Or.inl ⟨by rfl, ?_⟩) (by assumption) ?_
        rotate_left
        · (intro w hSw; (try dsimp only at hSw); (try obtain ⟨s0, s1, s2⟩ := hSw); go_simp; (try with_reducible rfl))
        try simp only [Act.put, List.setIfInBounds_toArray, List.set_cons_zero, List.set_cons_succ]
        have hSa : (U.alloc (.cells #[.int .i64 0, .int .i64 0, .slice none 0 0] 26)).drew.cell? ⟨b, o, none⟩ = some (.int .i64 t.kind) ∧ (U.alloc (.cells #[.int .i64 0, .int .i64 0, .slice none 0 0] 26)).drew.cell? ⟨b, o + 1, none⟩ = some (.int .i64 t.num) ∧ (U.alloc (.cells #[.int .i64 0, .int .i64 0, .slice none 0 0] 26)).drew.cell? ⟨b, o + 2, none⟩ = some (.slice ta t.kids.length tc) := ⟨(World.cell?_of_block (a := ⟨b, o, none⟩) (Below.heap_alloc _ _ _ hbU)).trans e0, (World.cell?_of_block (a := ⟨b, o + 1, none⟩) (Below.heap_alloc _ _ _ hbU)).trans e1, (World.cell?_of_block (a := ⟨b, o + 2, none⟩) (Below.heap_alloc _ _ _ hbU)).trans e2⟩
        have hSw2 : w2.cell? ⟨b, o, none⟩ = some (.int .i64 t.kind) ∧ w2.cell? ⟨b, o + 1, none⟩ = some (.int .i64 t.num) ∧ w2.cell? ⟨b, o + 2, none⟩ = some (.slice ta t.kids.length tc) := ⟨y0, y1, y2⟩
        have hSs : ∀ x y z, (((w2.setCell ⟨g2, m * 3, none⟩ x).setCell ⟨g2, m * 3 + 1, none⟩ y).setCell ⟨g2, m * 3 + 2, none⟩ z).cell? ⟨b, o, none⟩ = some (.int .i64 t.kind) ∧ (((w2.setCell ⟨g2, m * 3, none⟩ x).setCell ⟨g2, m * 3 + 1, none⟩ y).setCell ⟨g2, m * 3 + 2, none⟩ z).cell? ⟨b, o + 1, none⟩ = some (.int .i64 t.num) ∧ (((w2.setCell ⟨g2, m * 3, none⟩ x).setCell ⟨g2, m * 3 + 1, none⟩ y).setCell ⟨g2, m * 3 + 2, none⟩ z).cell? ⟨b, o + 2, none⟩ = some (.slice ta t.kids.length tc) := fun x y z => by
          have hb3 : (((w2.setCell ⟨g2, m * 3, none⟩ x).setCell ⟨g2, m * 3 + 1, none⟩ y).setCell ⟨g2, m * 3 + 2, none⟩ z).heap[b]? = w2.heap[b]? := (Below.heap_setCell _ _ _ _ hgb).trans ((Below.heap_setCell _ _ _ _ hgb).trans (Below.heap_setCell _ _ _ _ hgb))
          exact ⟨(World.cell?_of_block (a := ⟨b, o, none⟩) hb3).trans y0, (World.cell?_of_block (a := ⟨b, o + 1, none⟩) hb3).trans y1, (World.cell?_of_block (a := ⟨b, o + 2, none⟩) hb3).trans y2⟩
        have hSt : ∀ x y z u, ((((w2.setCell ⟨g2, m * 3, none⟩ x).setCell ⟨g2, m * 3 + 1, none⟩ y).setCell ⟨g2, m * 3 + 2, none⟩ z).setCell ⟨w1.heap.size, 0, none⟩ u).cell? ⟨b, o, none⟩ = some (.int .i64 t.kind) ∧ ((((w2.setCell ⟨g2, m * 3, none⟩ x).setCell ⟨g2, m * 3 + 1, none⟩ y).setCell ⟨g2, m * 3 + 2, none⟩ z).setCell ⟨w1.heap.size, 0, none⟩ u).cell? ⟨b, o + 1, none⟩ = some (.int .i64 t.num) ∧ ((((w2.setCell ⟨g2, m * 3, none⟩ x).setCell ⟨g2, m * 3 + 1, none⟩ y).setCell ⟨g2, m * 3 + 2, none⟩ z).setCell ⟨w1.heap.size, 0, none⟩ u).cell? ⟨b, o + 2, none⟩ = some (.slice ta t.kids.length tc) := fun x y z u => by
          obtain ⟨p0, p1, p2⟩ := hSs x y z
          have hb3 := Below.heap_setCell (((w2.setCell ⟨g2, m * 3, none⟩ x).setCell ⟨g2, m * 3 + 1, none⟩ y).setCell ⟨g2, m * 3 + 2, none⟩ z) ⟨w1.heap.size, 0, none⟩ u b hlbn
          exact ⟨(World.cell?_of_block (a := ⟨b, o, none⟩) hb3).trans p0, (World.cell?_of_block (a := ⟨b, o + 1, none⟩) hb3).trans p1, (World.cell?_of_block (a := ⟨b, o + 2, none⟩) hb3).trans p2⟩
        have hl3 : ∀ x y z, (((w2.setCell ⟨g2, m * 3, none⟩ x).setCell ⟨g2, m * 3 + 1, none⟩ y).setCell ⟨g2, m * 3 + 2, none⟩ z).heap[w1.heap.size]? = w2.heap[w1.heap.size]? := fun x y z => (Below.heap_setCell _ _ _ _ hlg).trans ((Below.heap_setCell _ _ _ _ hlg).trans (Below.heap_setCell _ _ _ _ hlg))
        have cl3 : ∀ x y z, (((w2.setCell ⟨g2, m * 3, none⟩ x).setCell ⟨g2, m * 3 + 1, none⟩ y).setCell ⟨g2, m * 3 + 2, none⟩ z).cell? ⟨w1.heap.size, 0, none⟩ = some (.slice av m cv) := fun x y z => (World.cell?_of_block (a := ⟨w1.heap.size, 0, none⟩) (hl3 x y z)).trans cl2
        have fl3 : ∀ x y z, (((w2.setCell ⟨g2, m * 3, none⟩ x).setCell ⟨g2, m * 3 + 1, none⟩ y).setCell ⟨g2, m * 3 + 2, none⟩ z).frozen? ⟨w1.heap.size, 0, none⟩ = false := fun x y z => Boxed.frozen ((hl3 x y z).trans HLB.out)
        clear hl3
        have hS9 : ∀ u, (w2.setCell ⟨w1.heap.size, 0, none⟩ u).cell? ⟨b, o, none⟩ = some (.int .i64 t.kind) ∧ (w2.setCell ⟨w1.heap.size, 0, none⟩ u).cell? ⟨b, o + 1, none⟩ = some (.int .i64 t.num) ∧ (w2.setCell ⟨w1.heap.size, 0, none⟩ u).cell? ⟨b, o + 2, none⟩ = some (.slice ta t.kids.length tc) := fun u => by
          have hb3 := Below.heap_setCell w2 ⟨w1.heap.size, 0, none⟩ u b hlbn
          exact ⟨(World.cell?_of_block (a := ⟨b, o, none⟩) hb3).trans y0, (World.cell?_of_block (a := ⟨b, o + 1, none⟩) hb3).trans y1, (World.cell?_of_block (a := ⟨b, o + 2, none⟩) hb3).trans y2⟩
        have hg9 : ∀ u, (w2.setCell ⟨w1.heap.size, 0, none⟩ u).heap[g2]? = w2.heap[g2]? := fun u => Below.heap_setCell w2 ⟨w1.heap.size, 0, none⟩ u g2 (fun e => hlg e.symm)
        have q09 : ∀ u, (w2.setCell ⟨w1.heap.size, 0, none⟩ u).cell? ⟨g2, m * 3, none⟩ = some (.int .i64 0) := fun u => (World.cell?_of_block (a := ⟨g2, m * 3, none⟩) (hg9 u)).trans q0
        have q19 : ∀ u, (w2.setCell ⟨w1.heap.size, 0, none⟩ u).cell? ⟨g2, m * 3 + 1, none⟩ = some (.int .i64 0) := fun u => (World.cell?_of_block (a := ⟨g2, m * 3 + 1, none⟩) (hg9 u)).trans q1
        have q29 : ∀ u, (w2.setCell ⟨w1.heap.size, 0, none⟩ u).cell? ⟨g2, m * 3 + 2, none⟩ = some (.slice none 0 0) := fun u => (World.cell?_of_block (a := ⟨g2, m * 3 + 2, none⟩) (hg9 u)).trans q2
        have hcm : ∀ u x y z, ((((w2.setCell ⟨w1.heap.size, 0, none⟩ u).setCell ⟨g2, m * 3, none⟩ x).setCell ⟨g2, m * 3 + 1, none⟩ y).setCell ⟨g2, m * 3 + 2, none⟩ z) = ((((w2.setCell ⟨g2, m * 3, none⟩ x).setCell ⟨g2, m * 3 + 1, none⟩ y).setCell ⟨g2, m * 3 + 2, none⟩ z).setCell ⟨w1.heap.size, 0, none⟩ u) := fun u x y z => by
          rw [setCell_comm w2 ⟨w1.heap.size, 0, none⟩ ⟨g2, m * 3, none⟩ u x hlg, setCell_comm _ ⟨w1.heap.size, 0, none⟩ ⟨g2, m * 3 + 1, none⟩ u y hlg, setCell_comm _ ⟨w1.heap.size, 0, none⟩ ⟨g2, m * 3 + 2, none⟩ u z hlg]
        clear hg9
        refine wpAnyH_ready (rs := [0, 5]) (by kernel_rfl) (by simp) ?_
        refine AllReadyH.cons (o := ⟨some 10, _, _, _, _, _⟩) rfl (fun K hK => ?_) (AllReadyH.cons (o := ⟨some 15, _, _, _, _, _⟩) rfl (fun K hK => ?_) AllReadyH.nil)
        · go_simp
          refine hK.out _ _ hS (fun _ => ?_)
          clear hK K
          refine wpAnyH_take (i := 4) (oi := ⟨some 14, _, _, _, _, _⟩) (v := ?_) rfl (by kernel_rfl) (by kernel_rfl) (by kernel_rfl) (fun _ _ _ h => h.elim) (Or.inl ⟨by rfl, ?_⟩) (by assumption) ?_
          rotate_left
          · (intro w hSw; (try dsimp only at hSw); (try obtain ⟨s0, s1, s2⟩ := hSw); go_simp; (try with_reducible rfl))
          try simp only [Act.put, List.setIfInBounds_toArray, List.set_cons_zero, List.set_cons_succ]
          refine wpAnyH_ready (rs := [5]) (by kernel_rfl) (by simp) ?_
          refine AllReadyH.cons (o := ⟨some 15, _, _, _, _, _⟩) rfl (fun K hK => ?_) AllReadyH.nil
          go_simp
          refine hK.out _ _ hSa (fun _ => ?_)
          clear hK K
          have hSx := hSw2
          refine wpAnyH_ready (rs := [6]) (by kernel_rfl) (by simp) ?_
          refine AllReadyH.cons (o := ⟨some 16, _, _, _, _, _⟩) rfl (fun K hK => ?_) AllReadyH.nil
          refine step_append_run rfl (.tmp 10) (.tmp 15) 24 rfl hap ?_
          refine hK.out _ _ hSw2 (fun _ => ?_)
          clear hK K
          refine wpAnyH_take (i := 7) (oi := ⟨some 17, _, _, _, _, _⟩) (v := ?_) rfl (by kernel_rfl) (by kernel_rfl) (by kernel_rfl) (fun _ _ _ h => h.elim) (Or.inl ⟨by rfl, ?_⟩) (by assumption) ?_
          rotate_left
          · (intro w hSw; (try dsimp only at hSw); (try obtain ⟨s0, s1, s2⟩ := hSw); go_simp; (try with_reducible rfl))
          try simp only [Act.put, List.setIfInBounds_toArray, List.set_cons_zero, List.set_cons_succ]
          refine wpAnyH_ready (rs := [8, 9]) (by kernel_rfl) (by simp) ?_
          refine AllReadyH.cons (o := ⟨none, _, _, _, _, _⟩) rfl (fun K hK => ?_) (AllReadyH.cons (o := ⟨none, _, _, _, _, _⟩) rfl (fun K hK => ?_) AllReadyH.nil)
          · go_simp
            refine hK.out _ _ (hSs _ _ _) (fun _ => ?_)
            clear hK K
            refine wpAnyH_ready (rs := [9]) (by kernel_rfl) (by simp) ?_
            refine AllReadyH.cons (o := ⟨none, _, _, _, _, _⟩) rfl (fun K hK => ?_) AllReadyH.nil
            go_simp
            refine hK.out _ _ (hSt _ _ _ _) (fun _ => ?_)
            clear hK K
            refine wpAnyH_done (by kernel_rfl) ?_ _
            show R _ _
            exact hR
          · go_simp
            refine hK.out _ _ (hS9 _) (fun _ => ?_)
            clear hK K
            refine wpAnyH_ready (rs := [8]) (by kernel_rfl) (by simp) ?_
            refine AllReadyH.cons (o := ⟨none, _, _, _, _, _⟩) rfl (fun K hK => ?_) AllReadyH.nil
            go_simp
            refine hK.out _ _ (hSt _ _ _ _) (fun _ => ?_)
            clear hK K
            refine wpAnyH_done (by kernel_rfl) ?_ _
            show R _ _
            exact hR
        · go_simp
          refine hK.out _ _ hSa (fun _ => ?_)
          clear hK K
          refine wpAnyH_ready (rs := [0]) (by kernel_rfl) (by simp) ?_
          refine AllReadyH.cons (o := ⟨some 10, _, _, _, _, _⟩) rfl (fun K hK => ?_) AllReadyH.nil
          go_simp
          refine hK.out _ _ hSa (fun _ => ?_)
          clear hK K
          refine wpAnyH_take (i := 4) (oi := ⟨some 14, _, _, _, _, _⟩) (v := ?_) rfl (by kernel_rfl) (by kernel_rfl) (by kernel_rfl) (fun _ _ _ h => h.elim) (Or.inl ⟨by rfl, ?_⟩) (by assumption) ?_
          rotate_left
          · (intro w hSw; (try dsimp only at hSw); (try obtain ⟨s0, s1, s2⟩ := hSw); go_simp; (try with_reducible rfl))
          try simp only [Act.put, List.setIfInBounds_toArray, List.set_cons_zero, List.set_cons_succ]
          have hSx := hSw2
          refine wpAnyH_ready (rs := [6]) (by kernel_rfl) (by simp) ?_
          refine AllReadyH.cons (o := ⟨some 16, _, _, _, _, _⟩) rfl (fun K hK => ?_) AllReadyH.nil
          refine step_append_run rfl (.tmp 10) (.tmp 15) 24 rfl hap ?_
          refine hK.out _ _ hSw2 (fun _ => ?_)
          clear hK K
          refine wpAnyH_take (i := 7) (oi := ⟨some 17, _, _, _, _, _⟩) (v := ?_) rfl (by kernel_rfl) (by kernel_rfl) (by kernel_rfl) (fun _ _ _ h => h.elim) (Or.inl ⟨by rfl, ?_⟩) (by assumption) ?_
          rotate_left
          · (intro w hSw; (try dsimp only at hSw); (try obtain ⟨s0, s1, s2⟩ := hSw); go_simp; (try with_reducible rfl))
          try simp only [Act.put, List.setIfInBounds_toArray, List.set_cons_zero, List.set_cons_succ]
          refine wpAnyH_ready (rs := [8, 9]) (by kernel_rfl) (by simp) ?_
          refine AllReadyH.cons (o := ⟨none, _, _, _, _, _⟩) rfl (fun K hK => ?_) (AllReadyH.cons (o := ⟨none, _, _, _, _, _⟩) rfl (fun K hK => ?_) AllReadyH.nil)
          · go_simp
            refine hK.out _ _ (hSs _ _ _) (fun _ => ?_)
            clear hK K
            refine wpAnyH_ready (rs := [9]) (by kernel_rfl) (by simp) ?_
            refine AllReadyH.cons (o := ⟨none, _, _, _, _, _⟩) rfl (fun K hK => ?_) AllReadyH.nil
            go_simp
            refine hK.out _ _ (hSt _ _ _ _) (fun _ => ?_)
            clear hK K
            refine wpAnyH_done (by kernel_rfl) ?_ _
            show R _ _
            exact hR
          · go_simp
            refine hK.out _ _ (hS9 _) (fun _ => ?_)
            clear hK K
            refine wpAnyH_ready (rs := [8]) (by kernel_rfl) (by simp) ?_
            refine AllReadyH.cons (o := ⟨none, _, _, _, _, _⟩) rfl (fun K hK => ?_) AllReadyH.nil
            go_simp
            refine hK.out _ _ (hSt _ _ _ _) (fun _ => ?_)
            clear hK K
            refine wpAnyH_done (by kernel_rfl) ?_ _
            show R _ _
            exact hR
      have hset : (((tyCells ls ++ [Value.int .i64 0, Value.int .i64 0, Value.slice none 0 0]).set (m * 3) (.int .i64 t.kind)).set (m * 3 + 1) (.int .i64 t.num)).set (m * 3 + 2) (.slice ta t.kids.length tc) = tyCells (ls ++ [⟨t, ta, tc⟩]) := by
        have hse : ∀ (l m : List Value) (i : Nat) (u : Value), l.length ≤ i → (l ++ m).set i u = l ++ m.set (i - l.length) u := fun l m i u h => by simp [List.set_append, Nat.not_lt.2 h]
        have htl := HTL.out
        rw [hse _ _ _ _ (by omega), hse _ _ _ _ (by omega), hse _ _ _ _ (by omega), htl, Nat.sub_self, Nat.add_sub_cancel_left, Nat.add_sub_cancel_left]
        simp [tyCells, Ty3.cells]
      have hr3 : (((w2.setCell ⟨g2, m * 3, none⟩ (.int .i64 t.kind)).setCell ⟨g2, m * 3 + 1, none⟩ (.int .i64 t.num)).setCell ⟨g2, m * 3 + 2, none⟩ (.slice ta t.kids.length tc)).ownsRow (w1.heap.size + 2) 26 3 (.slice (some ⟨g2, 0, none⟩) (m + 1) cap2) (m + 1) (tyCells (ls ++ [⟨t, ta, tc⟩])) := by
        rw [← hset]
        exact (((HOWN.out.stored (m * 3) (.int .i64 t.kind)).1.stored (m * 3 + 1) (.int .i64 t.num)).1.stored (m * 3 + 2) (.slice ta t.kids.length tc)).1
      have hr4 := ownsRow_setCell_below hr3 (a := ⟨w1.heap.size, 0, none⟩) (by show w1.heap.size < w1.heap.size + 2; omega) (.slice (some ⟨g2, 0, none⟩) (m + 1) cap2)
      have hg2M : ¬ M g2 := fun hm => by
        rcases HLY.out with h | h
        · exact HRM.out g2 h hm
        · have := (HM.out g2 hm).2; omega
      have hg2n : w.heap.size + 1 ≤ g2 := by have := (HOWN.out.lt g2 rfl).1; omega
      have hT2 : Turns (fun k => w.heap.size + 1 ≤ k ∧ ¬ M k) U w2 := ((Turns.alloc _ U _).trans (Turns.drew _ _)).trans (Turns.of_grown HGR.out (fun k e => ⟨by have := (HROW.out.lt k e).1; omega, HRM.out k e⟩))
      have hT3 := (((hT2.trans (Turns.setCell _ ⟨g2, m * 3, none⟩ (.int .i64 t.kind) ⟨hg2n, hg2M⟩)).trans (Turns.setCell _ ⟨g2, m * 3 + 1, none⟩ (.int .i64 t.num) ⟨hg2n, hg2M⟩)).trans (Turns.setCell _ ⟨g2, m * 3 + 2, none⟩ (.slice ta t.kids.length tc) ⟨hg2n, hg2M⟩)).trans (Turns.setCell _ ⟨w1.heap.size, 0, none⟩ (.slice (some ⟨g2, 0, none⟩) (m + 1) cap2) ⟨by omega, HLM.out⟩)
      have hl3 : (((w2.setCell ⟨g2, m * 3, none⟩ (.int .i64 t.kind)).setCell ⟨g2, m * 3 + 1, none⟩ (.int .i64 t.num)).setCell ⟨g2, m * 3 + 2, none⟩ (.slice ta t.kids.length tc)).heap[w1.heap.size]? = some (.cells #[.slice av m cv] 24) := ((Below.heap_setCell _ _ _ _ hlg).trans ((Below.heap_setCell _ _ _ _ hlg).trans (Below.heap_setCell _ _ _ _ hlg))).trans HLB.out
      gi_wp2
      refine ⟨hT3, ⟨.slice (some ⟨g2, 0, none⟩) (m + 1) cap2, ls ++ [⟨t, ta, tc⟩], ⟨Boxed.set _ hl3, HLM.out⟩, ⟨by rw [List.length_append, HMM.out]; exact hr4, fun g hg => by injection hg with hg; subst hg; exact hg2M⟩, ⟨?_, by rw [List.length_append, List.length_append, H2.out, HMM.out]; rfl, ?_⟩⟩, hT3.below HB.out (fun k h => h.1) (by have := HB.out.size; omega)⟩
      · rw [List.length_append, HMM.out, List.map_append, H1.out]; exact HTK.out.symm
      · intro y hy
        rcases List.mem_append.1 hy with h | h
        · exact H3.out y h
        · obtain rfl := List.mem_singleton.1 h
          exact HTY.out
    case done =>
      rintro D M xs U hD hMD hM hS ⟨⟨v, ls, ⟨hlb, hlM⟩, ⟨hrow, hrM⟩, ⟨hls1, hls2, hls3⟩⟩, hb⟩ hK
      have cl : U.cell? ⟨w1.heap.size, 0, none⟩ = some v := cell_box hlb rfl rfl
      have hlx : xs.length = L.length := by rw [show xs = Dx.annsAll d from hS]; exact HLC.out
      rw [hlx] at hls1 hrow
      rw [List.take_length] at hls1
      have hDne : ∀ g, v.ownBlock = some g → g ≠ D := fun g hg e => by
        rcases hrow.2 with ⟨h1, _⟩ | ⟨g', cap', cur, h1, _, h3, _⟩
        · rw [h1] at hg; cases hg
        · rw [h1] at hg; injection hg with hg; subst hg; dsimp only at e; rw [e, hK] at h3; cases h3
      have hrow' : (U.putObj D (.deferred none)).ownsRow w.heap.size 26 3 v L.length (tyCells ls) := own_same (own_base hrow (by omega)) (fun g hg => World.putObj_heap_other (hDne g hg))
      have hbn : Below (w.heap.size + 1) W4 (U.putObj D (.deferred none)) := (Turns.putObj (M := fun k => w.heap.size + 1 ≤ k) U D _ (by omega)).below hb (fun _ h => h) (by have := hb.size; omega)
      have HROW := Lib.hid hrow'; have HBN := Lib.hid hbn; have H1 := Lib.hid hls1; have H3 := Lib.hid hls3
      clear hx2 hx3 hlb hrow hrow' hbn hls1 hls2 hls3 hb hDne hS c0 c1 c2 c3 c4 c5 c6 c7 c8 c9 c10 c11 c12 c13 c14 c15
      gi_wp2
      refine ⟨by simp, .inl ⟨_, _, rfl, run_takeDeferred hK, ?_⟩⟩
      exact ⟨_, results_tmp rfl _ _ _, v, rfl, ⟨ls, by rw [HL.out]; exact H1.out, fun x hx => (H3.out x hx).below HBN.out HG9.out (fun _ h => h), by rw [HL.out]; exact HROW.out⟩, hb4.trans (HBN.out.mono (Nat.le_succ _))⟩
    case stop =>
      rintro D M c pre U hD _ _ h _
      exact h.elim
theorem anns_any (e : E) (s : Leads) (w : World) (hf : Ex.FineAll e) (h : ExAt (LT w.heap.size) w e s) :
    Calls Tryz.prog 29 #[ev e s] w fun r w' => ∃ v, r = .returned v ∧ TyRow w (if Ex.right e then Ex.anns e else []) w' v ∧ Below w.heap.size w w' := by
  refine (anns_anyG (LT w.heap.size) e s w hf (fun _ h => h) h).mono ?_
  rintro r w' ⟨v, hv, ⟨ls, h1, h2, h3⟩, hb⟩
  have hG : ∀ b, (LT w.heap.size b ∨ b = w.heap.size) → b < w.heap.size + 1 := fun b hb => by
    rcases hb with hb | hb
    · have : b < w.heap.size := hb; omega
    · omega
  exact ⟨v, hv, ⟨ls, h1, fun x hx => (h2 x hx).below (Below.refl (w.heap.size + 1) _) hG hG, h3⟩, hb⟩
end Go.Proofs.YtmmhpibkjdlkgaaGreat

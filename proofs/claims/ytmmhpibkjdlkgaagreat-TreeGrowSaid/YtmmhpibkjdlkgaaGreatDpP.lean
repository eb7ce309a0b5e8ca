/- How deep a pattern and an expression are, plainly: by their nodes, each with its depth. tree.fieldDepth, walked: how deep the patterns and the annotations of one node are. -/
import Derived.Test.YtmmhpibkjdlkgaaGreatTeR
import Derived.Test.YtmmhpibkjdlkgaaGreatTeG
import Derived.Test.YtmmhpibkjdlkgaaGreatTnB
import Derived.Test.YtmmhpibkjdlkgaaGreatTdP
import Derived.Test.YtmmhpibkjdlkgaaGreatTcI
import Derived.Test.YtmmhpibkjdlkgaaGreatTyS
namespace Go.Proofs.YtmmhpibkjdlkgaaGreat
open Go Go.RowKit

/-- The greatest of a row of numbers. -/
def top : List Nat → Nat | [] => 0 | x :: r => max x (top r)
theorem top_append : ∀ (l m : List Nat), top (l ++ m) = max (top l) (top m)
  | [], m => by simp [top]
  | x :: r, m => by rw [List.cons_append, top, top_append r m, top]; omega
theorem top_snoc (l : List Nat) (x : Nat) : top (l ++ [x]) = max (top l) x := by rw [top_append]; simp [top]
theorem top_le {l : List Nat} {b : Nat} (h : ∀ x ∈ l, x ≤ b) : top l ≤ b := by
  induction l with
  | nil => exact Nat.zero_le _
  | cons x r ih => have h1 := h x (by simp); have h2 := ih (fun y hy => h y (List.mem_cons_of_mem _ hy)); simp only [top]; omega
namespace Tr
mutual
def depth : P → Nat | .mk _ _ _ _ _ _ l => depths l + 1
def depths : List P → Nat | [] => 0 | t :: r => max (depth t) (depths r)
end
mutual
theorem pre_depth : ∀ (p : P) (d : Nat), top ((pre p (d + 1)).map fun k => k.2.2) = d + depth p
  | .mk k f t n nm s l, d => by
    have h := pres_depth l (d + 1)
    rw [pre, List.map_cons, top, h, depth]
    cases l with
    | nil => simp [depths]
    | cons x r => rw [if_neg (by simp)]; show max (d + 1) _ = _; omega
theorem pres_depth : ∀ (l : List P) (d : Nat), top ((pres l (d + 1)).map fun k => k.2.2) = if l = [] then 0 else d + depths l
  | [], d => by simp [pres, top]
  | x :: r, d => by
    have h1 := pre_depth x d
    have h2 := pres_depth r d
    rw [pres, List.map_append, top_append, h1, h2, if_neg (List.cons_ne_nil x r), depths]
    cases r with
    | nil => simp [depths]
    | cons y s => rw [if_neg (by simp)]; omega
end
mutual
theorem depth_le : ∀ (p : P), depth p ≤ size p
  | .mk k f t n nm s l => by have := depths_le l; rw [depth, size]; omega
theorem depths_le : ∀ (l : List P), depths l ≤ sizes l
  | [] => by simp [depths]
  | x :: r => by have := depth_le x; have := depths_le r; rw [depths, sizes]; omega
end
end Tr
namespace Ex
/-- How deep an annotation is; 0: there is none. -/
def annDepth (t : Tp.T) : Nat := if Tp.none t then 0 else Tp.depth t
/-- How deep the patterns and the annotations of one node are. -/
def fdep (e : E) : Nat := max (top (e.pats.map Tr.depth)) (max (annDepth e.a) (annDepth e.b))
mutual
def depth : E → Nat | .mk k f t nm ar n s op A B ps l => max (depths l) (fdep (.mk k f t nm ar n s op A B ps l)) + 1
def depths : List E → Nat | [] => 0 | t :: r => max (depth t) (depths r)
end
mutual
theorem pre_depth : ∀ (p : E) (d : Nat), top ((pre p (d + 1)).map fun k => k.2.2 + fdep k.1) = d + depth p
  | .mk k f t nm ar n s op A B ps l, d => by
    have h := pres_depth l (d + 1)
    rw [pre, List.map_cons, top, h, depth]
    cases l with
    | nil => rw [if_pos rfl]; show max (d + 1 + fdep (.mk k f t nm ar n s op A B ps [])) _ = _; rw [depths]; omega
    | cons x r => rw [if_neg (by simp)]; show max (d + 1 + fdep (.mk k f t nm ar n s op A B ps (x :: r))) _ = _; omega
theorem pres_depth : ∀ (l : List E) (d : Nat), top ((pres l (d + 1)).map fun k => k.2.2 + fdep k.1) = if l = [] then 0 else d + depths l
  | [], d => by simp [pres, top]
  | x :: r, d => by
    have h1 := pre_depth x d
    have h2 := pres_depth r d
    rw [pres, List.map_append, top_append, h1, h2, if_neg (List.cons_ne_nil x r), depths]
    cases r with
    | nil => simp [depths]
    | cons y s => rw [if_neg (by simp)]; omega
end
end Ex
end Go.Proofs.YtmmhpibkjdlkgaaGreat
namespace Go.Proofs.YtmmhpibkjdlkgaaGreat
open Go Go.RowKit Go.Shelf
open Ex (E)

attribute [local go_sem] Oper.semAt_some

theorem tops_take {l : List Tr.P} {i : Nat} (h : i < l.length) : top ((l.take (i + 1)).map Tr.depth) = max (top ((l.take i).map Tr.depth)) (Tr.depth l[i]) := by
  rw [List.take_succ_eq_append_getElem h, List.map_append, top_append]; simp [top]
theorem deps_all {p : Tr.P} {xs : List (Vi Tr.P)} (h : noAll Tr.shape p xs) : top (xs.map (·.d)) = Tr.depth p := by
  rw [noAll, Tr.nKeys_shape] at h
  have e : xs.map (·.d) = (Tr.pre p 1).map fun k => k.2.2 := by rw [← h, List.map_map]; rfl
  rw [e, Tr.pre_depth p 0, Nat.zero_add]
/-- How deep the annotation at a place is. -/
def atDepth (b o : Nat) (e : E) (x : Option Addr) : Nat := if x = some ⟨b, o + 8, none⟩ then Tp.depth e.a else Tp.depth e.b
theorem atDepth_all (b o : Nat) (e : E) : top ((annL b o (Tp.none e.a) (Tp.none e.b)).map (atDepth b o e)) = max (Ex.annDepth e.a) (Ex.annDepth e.b) := by
  unfold annL Ex.annDepth atDepth
  cases Tp.none e.a <;> cases Tp.none e.b <;> simp [top]
set_option maxRecDepth 100000 in
set_option maxHeartbeats 4000000 in
theorem fieldDepth_any (b o : Nat) (e : E) (w : World) (hb : b < w.heap.size) (hn : ENode (LT w.heap.size) w e b o) (hf : Ex.Fine e) :
    Calls Tryz.prog 56 #[.pointer (some ⟨b, o, none⟩)] w fun r w' => r = .returned (.int .i64 (Ex.fdep e : Nat)) ∧ Below w.heap.size w w' := by
  refine callsIn_wide (n := 9) |>.1 ?_
  have H30 := Lib.hid (fun p w => nodesP_any (.pointer p) (.func (.func 80) #[] #[]) ⟨_, rfl⟩ ⟨_, rfl⟩ w)
  have HOA := Lib.hid (fun a => ownAnn_any (.pointer a) ⟨_, rfl⟩)
  have hown := hn.kidsAt.1
  obtain ⟨pa, pc, p14, hpl, hpc, hps⟩ := hown.pats
  obtain ⟨m, hm⟩ : ∃ m, e.pats.length = m := ⟨_, rfl⟩
  rw [hm] at p14
  have hm2 : (m : Int) ≤ 9223372036854775807 := by have h2 := hpc; have h1 := hpl; unfold maxLen at h2; omega
  have HOWN := Lib.hid hown; have HPS := Lib.hid hps; have HM := Lib.hid hm; have HF := Lib.hid hf; have HB := Lib.hid hb; have HC14 := Lib.hid p14
  clear hn hown hps hm hf hpl hpc hb
  refine callsIn_of_wp_marks Tryz.func56 rfl trivial ?_ rfl
  simp only [Tryz.ntmps56, List.size_toArray, List.length_cons, List.length_nil, Nat.reduceAdd, Nat.reduceSub, Array.replicate_succ, Array.replicate_zero, List.push_toArray, List.append_toArray, List.nil_append, List.cons_append]
  have c14 : ∀ ob : Obj, (w.alloc ob).cell? ⟨b, o + 14, none⟩ = some (.slice pa m pc) := fun ob => (World.cell?_of_block (a := ⟨b, o + 14, none⟩) (Below.heap_alloc _ _ _ HB.out)).trans HC14.out
  clear p14
  gi_upto_region 3 with fail
  refine wpIn_loop_ghost_k (fun k a' wr => ∃ ds u4 u6 u13 u14 u15 u16 u17 u18 u19 u20 u21 u22 u23 u24 u25 u26 u27 u28, (∃ (i : Nat) (Ds : List Nat), u13 = .int .i64 (i : Int) ∧ i ≤ m ∧ (wr.heap[w.heap.size]? = some (.cells #[.int .i64 (top ((e.pats.take i).map Tr.depth) : Nat)] 3)) ∧ (ds = Ds.map markOf ∧ Marked (w.heap.size + 1) Ds wr) ∧ Below w.heap.size w wr ∧ k = m - i) ∧ a' = { tmps := #[.pointer (some ⟨b, o, none⟩), undef, .int .i64 0, .pointer (some ⟨w.heap.size, 0, none⟩), u4, undef, u6, undef, .pointer (some ⟨b, o, none⟩), .pointer (some ⟨b, o, none⟩), .pointer (some ⟨b, o + 14, none⟩), .slice pa m pc, .int .i64 (m : Int), u13, u14, u15, u16, u17, u18, u19, u20, u21, u22, u23, u24, u25, u26, u27, u28, undef, undef, undef, undef, undef, undef, undef, undef, undef, undef], defers := ds }) m ?start ?round
  case start =>
    repeat apply Exists.intro
    refine ⟨⟨0, [], rfl, Nat.zero_le _, ?_, ⟨rfl, Marked.nil _ _⟩, ?_, rfl⟩, rfl⟩
    · exact World.alloc_heap_new w _
    · exact (Below.refl _ _).alloc (Nat.le_refl _) _
  case round =>
    intro gk _ wr hinv
    obtain ⟨ds, u4, u6, u13, u14, u15, u16, u17, u18, u19, u20, u21, u22, u23, u24, u25, u26, u27, u28, ⟨i, Ds, rfl, hi, hg, ⟨hds, hmk⟩, hbl, rfl⟩, ha⟩ := hinv
    subst ha
    try dsimp only
    intro _ _ _ _
    have HG := Lib.hid hg; have HMK := Lib.hid hmk; have HBL := Lib.hid hbl; have HDS := Lib.hid hds
    have f14 : wr.cell? ⟨b, o + 14, none⟩ = some (.slice pa m pc) := (hbl.cell (p := ⟨b, o + 14, none⟩) HB.out).trans HC14.out
    have g0 : wr.cell? ⟨w.heap.size, 0, none⟩ = some (.int .i64 (top ((e.pats.take i).map Tr.depth) : Nat)) := cell_box hg rfl rfl
    clear hg hmk hbl hds c14
    by_cases hlt : i < m
    · have hil : i < e.pats.length := by rw [HM.out]; exact hlt
      obtain ⟨pb, po, rfl, hpb, hN⟩ := HPS.out.first (by omega)
      have hnode := hN i hil
      have hpsz := (HF.out.ps _ (List.getElem_mem hil)).1
      have HN := Lib.hid hnode; have HPB := Lib.hid hpb; have HPZ := Lib.hid hpsz; have HTK := Lib.hid (tops_take hil)
      clear hnode hpb hpsz hN
      gi_upto_region 5 with fail
      gi_wp2_with (refine ⟨trivial, ?_⟩; gi_at_call 79; refine (callsIn_wide.2 (H30.out _ _)).mono ?_; rintro e w' ⟨rfl, rfl⟩)
      obtain ⟨W2, hW2⟩ : ∃ W2, [Obj.cells #[.pointer (some ⟨pb, po + i * 7, none⟩)] 73, .cells #[.func (.func 80) #[] #[]] 135].foldl World.alloc wr = W2 := ⟨_, rfl⟩
      try rw [show (wr.alloc (.cells #[.pointer (some ⟨pb, po + i * 7, none⟩)] 73)).alloc (.cells #[.func (.func 80) #[] #[]] 135) = W2 from hW2]
      have hs2 : W2.heap.size = wr.heap.size + 2 := by rw [← hW2]; exact allocs_size _ _
      have hb2 : Below wr.heap.size wr W2 := by rw [← hW2]; exact allocs_below _ _ (Nat.le_refl _)
      have hx0 : W2.heap[wr.heap.size]? = some (.cells #[.pointer (some ⟨pb, po + i * 7, none⟩)] 73) := by rw [← hW2]; exact allocs_get _ wr 0 _ rfl
      have hx1 : W2.heap[wr.heap.size + 1]? = some (.cells #[.func (.func 80) #[] #[]] 135) := by rw [← hW2]; exact allocs_get _ wr 1 _ rfl
      have hgl : w.heap.size < wr.heap.size := (Array.getElem?_eq_some_iff.1 HG.out).1
      have hg2 := (hb2.block _ hgl).trans HG.out
      have hbw2 : Below w.heap.size w W2 := HBL.out.trans (hb2.mono HBL.out.size)
      obtain ⟨M0, hM0⟩ : ∃ M0, top ((e.pats.take i).map Tr.depth) = M0 := ⟨_, rfl⟩
      rw [hM0] at hg2
      have HM0 := Lib.hid hM0
      clear hW2 hM0 f14 g0
      refine wpIn_range_pat (Bt := wr.heap.size) (Bk := wr.heap.size + 1) (n := w.heap.size) (b := pb) (o := po + i * 7) (p := e.pats[i]) rfl (by omega)
        ⟨pb, po + i * 7, rfl, HPB.out, PNode.mono (fun y z hy => hbw2.cell (p := ⟨y, z, none⟩) hy) (fun _ h => h) _ _ _ HPB.out HN.out⟩ (by have := HPZ.out; omega) (cell_box hx0 rfl rfl) (cell_box hx1 rfl rfl) rfl
        (fun M pre V => (V.heap[w.heap.size]? = some (.cells #[.int .i64 (max M0 (top (pre.map (·.d))) : Nat)] 3) ∧ ¬ M w.heap.size) ∧ (W2.heap.size ≤ V.heap.size ∧ Turns (fun k => k = w.heap.size ∨ W2.heap.size ≤ k) W2 V))
        (fun _ _ _ _ => False)
        (fun x a' _ _ => a' = { tmps := #[.pointer (some ⟨b, o, none⟩), undef, .int .i64 0, .pointer (some ⟨w.heap.size, 0, none⟩), .int .i64 (i : Int), undef, .int .i64 (x.d : Int), undef, .pointer (some ⟨b, o, none⟩), .pointer (some ⟨b, o, none⟩), .pointer (some ⟨b, o + 14, none⟩), .slice (some ⟨pb, po, none⟩) m pc, .int .i64 (m : Int), .int .i64 (i : Int), .bool true, .int .i64 (i : Int), .pointer (some ⟨b, o, none⟩), .pointer (some ⟨b, o, none⟩), .pointer (some ⟨b, o + 14, none⟩), .slice (some ⟨pb, po, none⟩) m pc, .int .i64 (i : Int), .pointer (some ⟨pb, po + i * 7, none⟩), .func (.func 110) #[] #[.pointer (some ⟨wr.heap.size, 0, none⟩), .pointer (some ⟨wr.heap.size + 1, 0, none⟩)], .pointer x.p, .int .i64 (x.d : Int), u25, u26, u27, u28, undef, undef, undef, undef, undef, undef, undef, undef, undef, undef], defers := [] })
        (fun s => Ab.and (Ab.block _ _ _) (Ab.turns W2 (fun k hk => .inr hk))) (fun _ _ => Ab.pure _ _) (fun _ _ => Ab.pure _ _) ⟨⟨by simpa [top] using hg2, fun h => h⟩, Nat.le_refl _, Turns.refl _ _⟩ ?assign ?body ?done ?stop
      case assign =>
        intro l M pre x V K hi hM hok hpl hK
        clear hx0 hx1 hg2 hi hpl
        gi_wp2
        exact hK _ _ (Turns.refl _ _) (by simp [Vi.enc2])
      case body =>
        rintro l M pre x a' V ⟨⟨hgv, hgM⟩, hle2, hT⟩ hM hle hok hpl rfl
        have d0 : V.cell? ⟨w.heap.size, 0, none⟩ = some (.int .i64 (max M0 (top (pre.map (·.d))) : Nat)) := cell_box hgv rfl rfl
        have f0 : V.frozen? ⟨w.heap.size, 0, none⟩ = false := Boxed.frozen hgv
        have hsn : top ((pre ++ [x]).map (·.d)) = max (top (pre.map (·.d))) x.d := by rw [List.map_append]; exact top_snoc _ _
        obtain ⟨mx, hmx⟩ : ∃ mx, max M0 (top (pre.map (·.d))) = mx := ⟨_, rfl⟩
        rw [hmx] at d0
        have HMX := Lib.hid hmx; have HSN := Lib.hid hsn; have HGV := Lib.hid hgv; have HGM := Lib.hid hgM; have HT := Lib.hid hT; have HLE := Lib.hid hle2
        clear hx0 hx1 hg2 hgv hgM hT hle2 hM hle hok hpl hmx hsn hb2 hbw2 hs2
        gi_wp2
        all_goals
          refine ⟨Turns.setCell _ _ _ ⟨Nat.le_refl _, HGM.out⟩, ⟨?_, HGM.out⟩, by simpa using HLE.out, HT.out.trans (Turns.setCell _ _ _ (.inl rfl))⟩
          rw [HSN.out, show max M0 (max (top (pre.map (·.d))) x.d) = max mx x.d from by rw [← HMX.out]; omega]
          first
          | (rw [show max mx x.d = x.d from by omega]; exact Boxed.set _ HGV.out)
          | (rw [show max mx x.d = mx from by omega]; exact Boxed.set _ HGV.out)
      case done =>
        rintro D M xs V hD hMD hM hS ⟨⟨hgv, hgM⟩, hle2, hT⟩ hK
        rw [deps_all hS] at hgv
        have hbl2 : Below w.heap.size w V := hT.below hbw2 (fun k h => by rcases h with h | h <;> omega) hbw2.size
        have hmk2 : Marked (w.heap.size + 1) (D :: Ds) V := by
          refine Marked.cons (w := wr) ?_ hK (by omega) (by omega) (fun k hk => HMK.out.lt k hk)
          refine (HMK.out.turns (turns_below hb2) (fun _ _ _ h => h)).turns hT (fun k h1 h2 h => ?_)
          rcases h with h | h <;> omega
        have HGV := Lib.hid hgv; have HMK2 := Lib.hid hmk2; have HBL2 := Lib.hid hbl2
        clear hx0 hx1 hg2 hgv hgM hT hle2 hM hS hb2 hbw2 hs2 hK
        gi_wp2
        gi_roundg (m - (i + 1))
        case measure => omega
        case rel => exact ⟨i + 1, D :: Ds, by first | rfl | go_num, by omega, by rw [HTK.out, HM0.out]; exact HGV.out, ⟨by rw [HDS.out]; rfl, HMK2.out⟩, HBL2.out, rfl⟩
      case stop =>
        rintro D M c pre V hD _ _ h _
        exact h.elim
    · obtain rfl : i = m := by omega
      gi_wp2_with (refine ⟨trivial, ?_⟩; gi_at_call 93; refine (callsIn_wide.2 (HOA.out _ _)).mono ?_; rintro e w' ⟨rfl, rfl⟩)
      have htk : (e.pats.take i).map Tr.depth = e.pats.map Tr.depth := by rw [List.take_of_length_le (by rw [HM.out]; exact Nat.le_refl _)]
      rw [htk] at HG
      obtain ⟨W2, hW2⟩ : ∃ W2, wr.alloc (.cells #[.pointer (some ⟨b, o, none⟩)] 68) = W2 := ⟨_, rfl⟩
      rw [hW2]
      have hs2 : W2.heap.size = wr.heap.size + 1 := by rw [← hW2]; simp
      have hb2 : Below wr.heap.size wr W2 := by rw [← hW2]; exact (Below.refl _ _).alloc (Nat.le_refl _) _
      have hx0 : W2.heap[wr.heap.size]? = some (.cells #[.pointer (some ⟨b, o, none⟩)] 68) := by rw [← hW2]; exact World.alloc_heap_new wr _
      have hgl : w.heap.size < wr.heap.size := (Array.getElem?_eq_some_iff.1 HG.out).1
      have hg2 := (hb2.block _ hgl).trans HG.out
      have hbw2 : Below w.heap.size w W2 := HBL.out.trans (hb2.mono HBL.out.size)
      have hbl : b < w.heap.size := HB.out
      obtain ⟨M0, hM0⟩ : ∃ M0, top (e.pats.map Tr.depth) = M0 := ⟨_, rfl⟩
      rw [hM0] at hg2
      have HM0 := Lib.hid hM0
      clear hW2 hM0 f14 g0 htk
      have hownV : ∀ V, Below w.heap.size w V → EOwn (LT V.heap.size) V e b o := fun V hb => HOWN.out.mono (fun y z hy => hb.cell (p := ⟨y, z, none⟩) hy) (fun _ h => Nat.lt_of_lt_of_le h hb.size) HB.out
      have HOV := Lib.hid hownV
      have noneA : ∀ V, Below w.heap.size w V → NoneAt V b (o + 8) (Tp.none e.a) := fun V hb => by
        obtain ⟨a, cap, hat, h0, h1, h2⟩ := (HOV.out V hb).ca.ty
        exact ⟨e.a, a, cap, h0, h1, h2, rfl⟩
      have noneB : ∀ V, Below w.heap.size w V → NoneAt V b (o + 11) (Tp.none e.b) := fun V hb => by
        obtain ⟨a, cap, hat, h0, h1, h2⟩ := (HOV.out V hb).cb.ty
        exact ⟨e.b, a, cap, h0, h1, h2, rfl⟩
      have NB := Lib.hid noneB
      refine wpIn_range_at (gf := 120) (lb := #[.pointer (some ⟨wr.heap.size, 0, none⟩)]) rfl (enters_of Tryz.func120 (by kernel_rfl) rfl)
        (ownAnn_seq (fun k => w.heap.size ≤ k ∧ k ≠ wr.heap.size) wr.heap.size b o (Tp.none e.a) (Tp.none e.b) W2 (cell_box hx0 rfl rfl) (noneA W2 hbw2) (noneB W2 hbw2) (fun h => h.2 rfl) (by omega))
        (fun _ _ _ _ hK h e => ⟨(h e).1, fun hb => hK _ ((h e).2 hb)⟩) (Below.refl _ _) (fun k h => ⟨by omega, by omega⟩) (fun _ => rfl)
        (fun M pre V => (V.heap[w.heap.size]? = some (.cells #[.int .i64 (max M0 (top (pre.map (atDepth b o e))) : Nat)] 3) ∧ ¬ M w.heap.size) ∧ (W2.heap.size ≤ V.heap.size ∧ Turns (fun k => k = w.heap.size ∨ W2.heap.size ≤ k) W2 V))
        (fun _ _ _ _ => True) (fun _ _ _ _ => False)
        (fun x a' _ _ => a' = { tmps := #[.pointer (some ⟨b, o, none⟩), undef, .int .i64 0, .pointer (some ⟨w.heap.size, 0, none⟩), u4, undef, u6, .pointer x, .pointer (some ⟨b, o, none⟩), .pointer (some ⟨b, o, none⟩), .pointer (some ⟨b, o + 14, none⟩), .slice pa i pc, .int .i64 (i : Int), .int .i64 (i : Int), .bool false, u15, u16, u17, u18, u19, u20, u21, u22, u23, u24, u25, u26, u27, u28, .pointer (some ⟨b, o, none⟩), .func (.func 120) #[] #[.pointer (some ⟨wr.heap.size, 0, none⟩)], .pointer x, undef, undef, undef, undef, undef, undef, undef], defers := [] })
        (fun s => Ab.and (Ab.block _ _ _) (Ab.turns W2 (fun k hk => .inr hk))) (fun _ _ => Ab.pure _ _) (fun _ _ => Ab.pure _ _) ⟨⟨by simpa [top] using hg2, fun h => h⟩, Nat.le_refl _, Turns.refl _ _⟩ (fun _ _ => Ab.pure _ _) trivial ?next ?assign ?body ?done ?stop
      case next =>
        rintro M pre y V ⟨_, hle2, hT⟩ _ _ _ _
        exact ⟨NB.out V (hT.below hbw2 (fun k h => by rcases h with h | h <;> omega) hbw2.size), fun _ => trivial⟩
      case assign =>
        intro l M pre x V K hi hM hok _ hK
        clear hx0 hg2 hi
        gi_wp2
        exact hK _ _ (Turns.refl _ _) (by simp)
      case body =>
        rintro l M pre x a' V ⟨⟨hgv, hgM⟩, hle2, hT⟩ hM hle hok _ rfl
        have hblV : Below w.heap.size w V := hT.below hbw2 (fun k h => by rcases h with h | h <;> omega) hbw2.size
        have hkey : ∃ (f : Nat) (t : Tp.T), x = some ⟨b, f, none⟩ ∧ Tp.size t ≤ 10000 ∧ atDepth b o e x = Tp.depth t ∧ NodeAt (LT V.heap.size) V t b f := by
          have hov := HOV.out V hblV
          obtain ⟨rest, hr⟩ := hok
          have hmem : x ∈ annL b o (Tp.none e.a) (Tp.none e.b) := by rw [← hr]; simp
          unfold annL at hmem
          rcases List.mem_append.1 hmem with h | h
          · split at h
            · cases h
            · obtain rfl := List.mem_singleton.1 h
              exact ⟨o + 8, e.a, rfl, HF.out.a, by unfold atDepth; rw [if_pos rfl], hov.ca⟩
          · split at h
            · cases h
            · obtain rfl := List.mem_singleton.1 h
              exact ⟨o + 11, e.b, rfl, HF.out.b, by unfold atDepth; rw [if_neg (by simp)], hov.cb⟩
        obtain ⟨f, t, rfl, hts, had, hnd⟩ := hkey
        obtain ⟨a, cap, hat, h0, h1, h2⟩ := hnd.ty
        have hcall := depth_any t a cap V.drew hts (hat.below ((Below.refl V.heap.size V).drew) (fun _ h => h) (fun _ h => h))
        unfold tv at hcall
        have d0 : V.cell? ⟨w.heap.size, 0, none⟩ = some (.int .i64 (max M0 (top (pre.map (atDepth b o e))) : Nat)) := cell_box hgv rfl rfl
        have f0 : V.frozen? ⟨w.heap.size, 0, none⟩ = false := Boxed.frozen hgv
        have hsn : top ((pre ++ [(some ⟨b, f, none⟩ : Option Addr)]).map (atDepth b o e)) = max (top (pre.map (atDepth b o e))) (Tp.depth t) := by rw [List.map_append, ← had]; exact top_snoc _ _
        have hVl : w.heap.size < V.heap.size := by omega
        obtain ⟨mx, hmx⟩ : ∃ mx, max M0 (top (pre.map (atDepth b o e))) = mx := ⟨_, rfl⟩
        rw [hmx] at d0 hgv
        have HMX := Lib.hid hmx; have HSN := Lib.hid hsn; have HGV := Lib.hid hgv; have HGM := Lib.hid hgM; have HT := Lib.hid hT; have HLE := Lib.hid hle2; have HCL := Lib.hid hcall; have HVL := Lib.hid hVl; have HGL := Lib.hid hgl; have HS2 := Lib.hid hs2
        clear hx0 hg2 hgv hgM hT hle2 hM hle hok hmx hsn hb2 hbw2 hs2 hcall hnd hat had hblV hownV noneA noneB hVl hgl
        have hm : (Tryz.prog).follows .mixedOrders = true := by kernel_rfl
        gi_upto_region 11 with fail
        gi_region_with_o (refine ⟨trivial, ?_⟩; gi_at_call 94; refine (CallsIn.inRound l (callsIn_wide.2 HCL.out)).mono ?_; rintro e w1 ⟨rfl, hb1⟩; have hr1 := (hb1.block _ HVL.out).trans HGV.out; have f1 : w1.frozen? ⟨w.heap.size, 0, none⟩ = false := Boxed.frozen hr1; have c1 : w1.cell? ⟨w.heap.size, 0, none⟩ = some (.int .i64 (mx : Int)) := cell_box hr1 rfl rfl; have HR1 := Lib.hid hr1; have HB1 := Lib.hid hb1; clear hr1 hb1)
        all_goals gi_wp2
        all_goals
          have hT1 : ∀ X : Nat → Prop, Turns X V w1 := fun X => ⟨HB1.out.os, HB1.out.tape, HB1.out.output, HB1.out.size, fun k hk _ => HB1.out.block k hk⟩
          refine ⟨(hT1 _).trans (Turns.setCell _ _ _ ⟨⟨Nat.le_refl _, by have := HGL.out; show w.heap.size ≠ wr.heap.size; omega⟩, HGM.out⟩), ⟨?_, HGM.out⟩, by simpa using Nat.le_trans HLE.out HB1.out.size, HT.out.trans ((hT1 _).trans (Turns.setCell _ _ _ (.inl rfl)))⟩
          rw [HSN.out, show max M0 (max (top (pre.map (atDepth b o e))) (Tp.depth t)) = max mx (Tp.depth t) from by rw [← HMX.out]; omega]
          first
          | (rw [show max mx (Tp.depth t) = Tp.depth t from by omega]; exact Boxed.set _ HR1.out)
          | (rw [show max mx (Tp.depth t) = mx from by omega]; exact Boxed.set _ HR1.out)
      case done =>
        rintro D M xs V hD hMD hM rfl ⟨⟨hgv, hgM⟩, hle2, hT⟩ hK
        rw [atDepth_all] at hgv
        have hbl2 : Below w.heap.size w V := hT.below hbw2 (fun k h => by rcases h with h | h <;> omega) hbw2.size
        have hmk2 : Marked (w.heap.size + 1) Ds V := by
          refine (HMK.out.turns (turns_below hb2) (fun _ _ _ h => h)).turns hT (fun k h1 h2 h => ?_)
          rcases h with h | h <;> omega
        have hmk3 : Marked (w.heap.size + 1) (D :: Ds) V := hmk2.cons (w := wr) hK (by omega) (by omega) (fun k hk => HMK.out.lt k hk)
        have d0 : V.cell? ⟨w.heap.size, 0, none⟩ = some (.int .i64 (max M0 (max (Ex.annDepth e.a) (Ex.annDepth e.b)) : Nat)) := cell_box hgv rfl rfl
        have hfd : max M0 (max (Ex.annDepth e.a) (Ex.annDepth e.b)) = Ex.fdep e := by unfold Ex.fdep; rw [← HM0.out]
        rw [hfd] at d0
        have HMK3 := Lib.hid hmk3; have HBL2 := Lib.hid hbl2
        clear hx0 hg2 hgv hgM hT hle2 hM hb2 hbw2 hs2 hK hmk2 hmk3 hbl2 hfd hownV noneA noneB
        gi_wp2
        refine ⟨by simp, .inl ⟨_, _, rfl, run_takeDeferred (HMK3.out.here D (by simp)), ?_⟩⟩
        rw [HDS.out]
        obtain ⟨hnd, hnd2⟩ := List.nodup_cons.1 HMK3.out.nodup
        refine leaves_marks Ds _ hnd2 (fun k hk => ?_) (fun w' hT => ⟨_, results_tmp rfl _ _ _, rfl, ?_⟩)
        · rw [World.putObj_heap_other (fun e => by subst e; exact hnd hk)]
          exact HMK3.out.here k (List.mem_cons_of_mem _ hk)
        · have hlow := HMK3.out.low
          have hTD : Turns (fun k => w.heap.size ≤ k) V (V.putObj D (.deferred none)) := Turns.putObj _ D _ (by have := hlow D (by simp); omega)
          exact (hTD.trans (hT.mono (fun k _ h => by have := hlow k (List.mem_cons_of_mem _ h); omega))).below HBL2.out (fun _ h => h) HBL2.out.size
      case stop =>
        rintro D M c pre V hD _ _ h _
        exact h.elim
end Go.Proofs.YtmmhpibkjdlkgaaGreat

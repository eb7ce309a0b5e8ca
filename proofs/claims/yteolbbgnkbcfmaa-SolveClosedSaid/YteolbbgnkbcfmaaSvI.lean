/- solve.work.pushKids. -/
import Derived.Test.YteolbbgnkbcfmaaSvH
import Derived.Test.YteolbbgnkbcfmaaSuF
import Derived.Test.YteolbbgnkbcfmaaTnB
namespace Go.Proofs.Yteolbbgnkbcfmaa
open Go Go.RowKit Go.Shelf
open Tp (T)
open Sg (Of Rt Den Dens Alk Mkd trav travs rootOf kidsOf)
attribute [local go_sem] Oper.semAt_some
set_option maxRecDepth 100000 in
theorem backI_any (va : Option Addr) (n vc : Nat) (w : World) : Calls Try.prog 123 #[.slice va n vc] w fun e w' => e = .returned (.func (.func 135) #[] #[.pointer (some ⟨w.heap.size, 0, none⟩)]) ∧ w' = w.alloc (.cells #[.slice va n vc] 27) := by
  go_enter Try.func123, Try.ntmps123
  go_wp2_with fail
  go_ret
  exact ⟨rfl, rfl⟩
/-- The pairs of the kids of two nodes, the first ones on top. -/
def pks (fr : Bool) : List Nat → List Nat → List Pr
  | x :: xs, y :: ys => ⟨x, y, fr⟩ :: pks fr xs ys
  | _, _ => []
theorem info_pr : (Try.prog.info? 113).map (fun i => (i.zero, i.size, i.bytes)) = some (some (.agg #[.int .i64 0, .int .i64 0, .bool false]), 3, 24) := by kernel_rfl
theorem info_parts3 {P : Program} {t : TypeId} {z : Value} {n m : Nat} (h : (P.info? t).map (fun i => (i.zero, i.size, i.bytes)) = some (some z, n, m)) : ∃ i, P.info? t = some i ∧ i.zero = some z ∧ i.size = n ∧ i.bytes = m := by
  cases hi : P.info? t with
  | none => rw [hi] at h; cases h
  | some i => rw [hi] at h; simp only [Option.map_some, Option.some.injEq, Prod.mk.injEq] at h; exact ⟨i, rfl, h.1, h.2.1, h.2.2⟩
theorem pr_one (x y : Int) (f : Bool) : ∀ u ∈ [Value.int .i64 x, .int .i64 y, .bool f], u.oneCell' = true := by
  intro u hu
  simp only [List.mem_cons, List.not_mem_nil, or_false] at hu
  rcases hu with rfl | rfl | rfl <;> rfl
/-- Between two rounds of pushKids' loop: the last k kids were pushed. -/
structure PkI (Bs b s mb mc nd ns : Nat) (P : List Pr) (D : List (Nat × Nat)) (S : IMap) (Bv g cap : Nat) (L C K : Int) (H : List SNd) (x y : Nat) (xs ys : List Nat) (fr : Bool) (w : World) (yb xb Dk : Nat) (xa ya : Option Addr) (xc yc : Nat) (k : Nat) (oa : Option Addr) (oc : Nat) (W : World) : Prop where
  wk : WK Bs b s oa oc mb mc (nd + 1) ns W (pks fr (xs.drop (xs.length - k)) (ys.drop (xs.length - k)) ++ P) ((x, y) :: D) S
  sv : SV Bv s g cap L C K W H
  kp : Kp Bs (fun i => i = g) w W
  b0 : W.heap[w.heap.size]? = some (.cells #[.pointer (some ⟨b, 0, none⟩)] 159)
  b1 : W.heap[w.heap.size + 1]? = some (.cells #[.bool fr] 4)
  b2 : W.heap[yb]? = some (.cells #[.slice ya xs.length yc] 27)
  b3 : W.heap[xb]? = some (.cells #[.slice xa xs.length xc] 27)
  ix : IntsAt W (xs.map fun (n : Nat) => (n : Int)) xa
  iy : IntsAt W (ys.map fun (n : Nat) => (n : Int)) ya
  rb : ∀ i, (Value.slice oa (pks fr (xs.drop (xs.length - k)) (ys.drop (xs.length - k)) ++ P).length oc).ownBlock = some i → i < w.heap.size ∨ Dk + 2 ≤ i
  bm : b < w.heap.size ∧ mb < w.heap.size ∧ mc < w.heap.size
  gx : ∀ bq o, xa = some ⟨bq, o, none⟩ → bq < Dk ∧ w.heap.size ≤ bq ∧ bq ≠ g
  gy : ∀ bq o, ya = some ⟨bq, o, none⟩ → bq < Dk ∧ w.heap.size ≤ bq ∧ bq ≠ g
  gs : s < Dk ∧ g < Dk ∧ w.heap.size + 2 ≤ yb ∧ yb < xb ∧ xb < Dk ∧ Dk ≤ W.heap.size ∧ s < w.heap.size ∧ g < w.heap.size
theorem IntsAt.keep {l : List Int} {W W' : World} {a : Option Addr} (h : IntsAt W l a) (hs : ∀ bq o, a = some ⟨bq, o, none⟩ → W'.heap[bq]? = W.heap[bq]?) : IntsAt W' l a := fun i hi => by
  obtain ⟨bq, o, e, hc⟩ := h i hi
  exact ⟨bq, o, e, (World.cell?_of_block (a := ⟨bq, o + i, none⟩) (hs bq o e)).trans hc⟩
theorem PkI.far {Bs b s mb mc nd ns : Nat} {P : List Pr} {D : List (Nat × Nat)} {S : IMap} {Bv g cap : Nat} {L C K : Int} {H : List SNd} {x y : Nat} {xs ys : List Nat} {fr : Bool} {w : World} {yb xb Dk : Nat} {xa ya : Option Addr} {xc yc k : Nat} {oa : Option Addr} {oc : Nat} {W : World} (h : PkI Bs b s mb mc nd ns P D S Bv g cap L C K H x y xs ys fr w yb xb Dk xa ya xc yc k oa oc W) : ∀ i, WKb b mb mc oa (pks fr (xs.drop (xs.length - k)) (ys.drop (xs.length - k)) ++ P).length oc i → i < Dk ∨ Dk + 2 ≤ i := fun i hi => by
  obtain ⟨q1, q2, q3, q4, q5, q6, q7, q8⟩ := h.gs
  obtain ⟨m1, m2, m3⟩ := h.bm
  rcases hi with rfl | rfl | rfl | hi
  · omega
  · omega
  · omega
  · have := h.rb i hi; omega
theorem PkI.turn {Bs b s mb mc nd ns : Nat} {P : List Pr} {D : List (Nat × Nat)} {S : IMap} {Bv g cap : Nat} {L C K : Int} {H : List SNd} {x y : Nat} {xs ys : List Nat} {fr : Bool} {w : World} {yb xb Dk : Nat} {xa ya : Option Addr} {xc yc k : Nat} {oa : Option Addr} {oc : Nat} {W W' : World} (h : PkI Bs b s mb mc nd ns P D S Bv g cap L C K H x y xs ys fr w yb xb Dk xa ya xc yc k oa oc W) (hB : Bs ≤ w.heap.size) (hT : Turns (fun j => j = Dk ∨ j = Dk + 1) W W') :
    PkI Bs b s mb mc nd ns P D S Bv g cap L C K H x y xs ys fr w yb xb Dk xa ya xc yc k oa oc W' := by
  obtain ⟨g1, g2, g3, g4, g5, g6, g7, g8⟩ := h.gs
  have fr' : ∀ i, i < W.heap.size → i < Dk ∨ Dk + 2 ≤ i → W'.heap[i]? = W.heap[i]? := fun i h1 h2 => hT.block i h1 (fun h => by omega)
  refine ⟨h.wk.keep (fun i hi => fr' i (h.wk.lt hi).2 (h.far i hi)), h.sv.same (fr' s (by omega) (by omega)) (fr' g (by omega) (by omega)), ⟨hT.os.trans h.kp.os, hT.tape.trans h.kp.tape, hT.output.trans h.kp.output, Nat.le_trans h.kp.size hT.size, fun i hi hm => (fr' i (by have := h.kp.size; omega) (by omega)).trans (h.kp.block i hi hm)⟩, (fr' _ (by omega) (by omega)).trans h.b0, (fr' _ (by omega) (by omega)).trans h.b1, (fr' _ (by omega) (by omega)).trans h.b2, (fr' _ (by omega) (by omega)).trans h.b3, h.ix.keep (fun bq o e => fr' bq (by have := (h.gx bq o e).1; omega) (.inl (h.gx bq o e).1)), h.iy.keep (fun bq o e => fr' bq (by have := (h.gy bq o e).1; omega) (.inl (h.gy bq o e).1)), h.rb, h.bm, h.gx, h.gy, g1, g2, g3, g4, g5, Nat.le_trans g6 hT.size, g7, g8⟩
theorem PkI.push {Bs b s mb mc nd ns : Nat} {P : List Pr} {D : List (Nat × Nat)} {S : IMap} {Bv g cap : Nat} {L C K : Int} {H : List SNd} {x y : Nat} {xs ys : List Nat} {fr : Bool} {w : World} {yb xb Dk : Nat} {xa ya : Option Addr} {xc yc k : Nat} {oa : Option Addr} {oc : Nat} {W U : World} (h : PkI Bs b s mb mc nd ns P D S Bv g cap L C K H x y xs ys fr w yb xb Dk xa ya xc yc k oa oc W) (hB : Bs ≤ w.heap.size) (hbw : b < w.heap.size)
    {p : Pr} {Q : List Pr} (hQ : pks fr (xs.drop (xs.length - k)) (ys.drop (xs.length - k)) ++ P = Q) (hQ' : pks fr (xs.drop (xs.length - (k + 1))) (ys.drop (xs.length - (k + 1))) ++ P = p :: Q) {o : Obj} (hgr : (W.drew.alloc o).grownBy U (Value.slice oa Q.length oc).ownBlock) {g1 c1 : Nat} (hown : U.ownsRow Bs 113 3 (.slice (some ⟨g1, 0, none⟩) (Q.length + 1) c1) (Q.length + 1) (prRow Q ++ prC p)) (hly : (Value.slice oa Q.length oc).ownBlock = some g1 ∨ g1 = W.heap.size + 1) (hD : Dk + 2 ≤ W.heap.size) :
    ((U.setCell ⟨b, 1, none⟩ (.slice (some ⟨g1, 0, none⟩) (Q.length + 1) c1)).heap[Dk]? = W.heap[Dk]? ∧ (U.setCell ⟨b, 1, none⟩ (.slice (some ⟨g1, 0, none⟩) (Q.length + 1) c1)).heap[Dk + 1]? = W.heap[Dk + 1]?) ∧ PkI Bs b s mb mc nd ns P D S Bv g cap L C K H x y xs ys fr w yb xb Dk xa ya xc yc (k + 1) (some ⟨g1, 0, none⟩) c1 (U.setCell ⟨b, 1, none⟩ (.slice (some ⟨g1, 0, none⟩) (Q.length + 1) c1)) := by
  obtain ⟨q1, q2, q3, q4, q5, q6, q7, q8⟩ := h.gs
  have hwk := h.wk
  have hfar := h.far
  rw [hQ] at hwk hfar
  obtain ⟨F, hF⟩ : ∃ F, U.setCell ⟨b, 1, none⟩ (.slice (some ⟨g1, 0, none⟩) (Q.length + 1) c1) = F := ⟨_, rfl⟩
  have hal : ∀ i, i < W.heap.size → (W.drew.alloc o).heap[i]? = W.heap[i]? := fun i hi => Below.heap_alloc W.drew o i hi
  have fru : ∀ i, i < W.heap.size → (Value.slice oa Q.length oc).ownBlock ≠ some i → U.heap[i]? = W.heap[i]? := fun i hi hne => (hgr.block i (by rw [World.size_alloc]; show i < W.heap.size + 1; omega) (fun e => hne e.symm)).trans (hal i hi)
  have frf : ∀ i, i ≠ b → F.heap[i]? = U.heap[i]? := fun i hi => by rw [← hF]; exact Below.heap_setCell _ _ _ i hi
  have fr' : ∀ i, i < W.heap.size → (Value.slice oa Q.length oc).ownBlock ≠ some i → i ≠ b → F.heap[i]? = W.heap[i]? := fun i h1 h2 h3 => (frf i h3).trans (fru i h1 h2)
  obtain ⟨o1, o2, o3, o4⟩ := hwk.own
  have hap := fun i hi => hwk.apart h.sv (i := i) hi
  have hrow := fun i (hi : (Value.slice oa Q.length oc).ownBlock = some i) => hwk.row.lt i hi
  have hzu : W.heap.size + 1 ≤ U.heap.size := by have := hgr.size; rw [World.size_alloc] at this; exact this
  have hzf : F.heap.size = U.heap.size := by rw [← hF]; exact size_setCell _ _ _
  have hbl := (hwk.lt (i := b) (.inl rfl)).2
  have hml := (hwk.lt (i := mb) (.inr (.inl rfl))).2
  have hcl := (hwk.lt (i := mc) (.inr (.inr (.inl rfl)))).2
  have hbx : U.heap[b]? = some (.cells #[.pointer (some ⟨s, 0, none⟩), .slice oa Q.length oc, .map (some mb), .map (some mc)] 117) := (fru b hbl (fun e => (o4 b e).1 rfl)).trans hwk.box
  have hg1b : g1 ≠ b := fun e => by
    obtain ⟨A, hA⟩ := row_cells hown (i := g1) rfl
    rw [e, hbx] at hA; injection hA with hA; injection hA with _ hA; exact absurd hA (by decide)
  have hrb := h.rb
  rw [hQ] at hrb
  obtain ⟨m1, m2, m3⟩ := h.bm
  have frm : ∀ i, i < Dk → w.heap.size ≤ i → F.heap[i]? = W.heap[i]? := fun i h1 h2 => fr' i (by omega) (fun e => by have := hrb i e; omega) (by omega)
  have hfg : ∀ i, i = s ∨ i = g → F.heap[i]? = W.heap[i]? := fun i hi => fr' i (by rcases hi with e | e <;> omega) (fun e => by have := hap i (.inr (.inr (.inr e))); rcases hi with e | e <;> omega) (fun e => by have := hap b (.inl rfl); rcases hi with e' | e' <;> omega)
  have hwkF : WK Bs b s (some ⟨g1, 0, none⟩) c1 mb mc (nd + 1) ns F (p :: Q) ((x, y) :: D) S := by
    refine ⟨?_, ?_, hwk.dn.same (fr' mb hml (fun e => (o4 mb e).2.1 rfl) (fun e => o1 e.symm)), hwk.st.same (fr' mc hcl (fun e => (o4 mc e).2.2 rfl) (fun e => o2 e.symm)), hwk.lb, hwk.lm, hwk.lc, hwk.ne⟩
    · rw [← hF]; exact box_set hbx
    · exact own_same hown (fun i hi => frf i (fun e => by
        have hi' : g1 = i := by simpa [Value.ownBlock] using hi
        omega))
  rw [hF]
  refine ⟨⟨fr' Dk (by omega) (fun e => by have := hrb _ e; omega) (by omega), fr' (Dk + 1) (by omega) (fun e => by have := hrb _ e; omega) (by omega)⟩, ?_⟩
  refine ⟨by rw [hQ']; exact hwkF, h.sv.same (hfg s (.inl rfl)) (hfg g (.inr rfl)), ?_, (frm _ (by omega) (by omega)).trans h.b0, (frm _ (by omega) (by omega)).trans h.b1, (frm _ (by omega) (by omega)).trans h.b2, (frm _ (by omega) (by omega)).trans h.b3, h.ix.keep (fun bq oo e => frm bq (h.gx bq oo e).1 (h.gx bq oo e).2.1), h.iy.keep (fun bq oo e => frm bq (h.gy bq oo e).1 (h.gy bq oo e).2.1), ?_, h.bm, h.gx, h.gy, q1, q2, q3, q4, q5, by omega, q7, q8⟩
  · rw [← hF]
    have k1 : Kp Bs (fun i => i = g) w W.drew := h.kp.drew
    have k2 := (k1.alloc (show Bs ≤ W.drew.heap.size by show Bs ≤ W.heap.size; have := h.kp.size; omega) o).grown hgr (by rw [World.size_alloc]; show Bs ≤ W.heap.size + 1; have := h.kp.size; omega) (fun i hi => .inl (hrow i hi).1)
    exact k2.setCell (.inl hwk.lb) _
  · intro i hi
    have hi' : g1 = i := by simpa [Value.ownBlock] using hi
    subst hi'
    rcases hly with e | e
    · exact hrb g1 e
    · omega
section
variable {Bs b s : Nat} {oa : Option Addr} {oc mb mc nd ns : Nat} {w : World} {P : List Pr} {D : List (Nat × Nat)} {S : IMap}
variable {Bv g cap : Nat} {L C K : Int} {H : List SNd}
def PkP (Bs b s mb mc nd ns : Nat) (P : List Pr) (D : List (Nat × Nat)) (S : IMap) (Bv g cap : Nat) (L C K : Int) (H : List SNd) (x y : Nat) (xs ys : List Nat) (fr : Bool) (w : World) (e : Ending) (w' : World) : Prop :=
  ∃ oa' oc', (∃ v, e = .returned v) ∧ SV Bv s g cap L C K w' H ∧ Kp Bs (fun i => i = g) w w' ∧
    if (x, y) ∈ D ∨ x = y then WK Bs b s oa' oc' mb mc nd ns w' P D S
    else WK Bs b s oa' oc' mb mc (nd + 1) ns w' (pks fr xs ys ++ P) ((x, y) :: D) S
set_option maxRecDepth 100000 in
set_option maxHeartbeats 8000000 in
theorem pushKids13_any (hwk : WK Bs b s oa oc mb mc nd ns w P D S) (hsv : SV Bv s g cap L C K w H) (hbs : Bs ≤ w.heap.size) (hsB : s < Bs) {x y : Nat} {dx dy : SNd} (hx : H[x]? = some dx) (hxu : dx.up = x) (hy : H[y]? = some dy) (hyu : dy.up = y) (hk : dx.c.kind = dy.c.kind) (hbig : H.length ≤ 1000000)
    {xs ys : List Nat} (hxs : kidL dx.c.kind dx.c.a dx.c.b = xs.map fun (n : Nat) => (n : Int)) (hys : kidL dy.c.kind dy.c.a dy.c.b = ys.map fun (n : Nat) => (n : Int)) (fr : Bool) (hnd : nd ≤ 4000000) (hP : P.length ≤ 4000000) :
    Calls Try.prog 90 #[.pointer (some ⟨b, 0, none⟩), .int .i64 (x : Int), .int .i64 (y : Int), .bool fr] w (PkP Bs b s mb mc nd ns P D S Bv g cap L C K H x y xs ys fr w) := by
  obtain ⟨W2, hW2⟩ : ∃ W, (w.alloc (.cells #[.pointer (some ⟨b, 0, none⟩)] 159)).alloc (.cells #[.bool fr] 4) = W := ⟨_, rfl⟩
  have hb2 : Below w.heap.size w W2 := by rw [← hW2]; exact ((Below.refl _ _).alloc (Nat.le_refl _) _).alloc (by simp) _
  have hx0 : W2.heap[w.heap.size]? = some (.cells #[.pointer (some ⟨b, 0, none⟩)] 159) := by rw [← hW2]; exact box1 _ _ _ _ _
  have hx1 : W2.heap[w.heap.size + 1]? = some (.cells #[.bool fr] 4) := by rw [← hW2]; exact box2 _ _ _ _ _
  have hz2 : W2.heap.size = w.heap.size + 2 := by rw [← hW2]; simp
  have hwk2 := hwk.below hb2
  have hsv2 := hsv.below hb2
  have d0 : W2.cell? ⟨w.heap.size, 0, none⟩ = some (.pointer (some ⟨b, 0, none⟩)) := cell_box hx0 rfl rfl
  have b2 : W2.cell? ⟨b, 2, none⟩ = some (.map (some mb)) := cell_box hwk2.box rfl rfl
  have hxl := (List.getElem?_eq_some_iff.1 hx).1
  have hyl := (List.getElem?_eq_some_iff.1 hy).1
  have hix : I64 (x : Int) := by unfold I64; omega
  have hiy : I64 (y : Int) := by unfold I64; omega
  have hlk := dn_look hwk2.dn hix hiy
  obtain ⟨dd, hdd⟩ : ∃ q, decide ((x, y) ∈ D) = q := ⟨_, rfl⟩
  rw [hdd] at hlk
  have HB2 := Lib.hid hb2; have HX0 := Lib.hid hx0; have HX1 := Lib.hid hx1; have HZ2 := Lib.hid hz2; have HW2 := Lib.hid hW2; have HWK2 := Lib.hid hwk2; have HSV2 := Lib.hid hsv2; have HIX := Lib.hid hix; have HIY := Lib.hid hiy; have HDD := Lib.hid hdd; have HX := Lib.hid hx; have HXU := Lib.hid hxu; have HY := Lib.hid hy; have HYU := Lib.hid hyu; have HKE := Lib.hid hk; have HXS := Lib.hid hxs; have HYS := Lib.hid hys; have HND := Lib.hid hnd; have HP := Lib.hid hP; have HBS := Lib.hid hbs; have HSB := Lib.hid hsB; have HMW := Lib.hid (hwk.lt (i := mb) (.inr (.inl rfl))).2; have HGW := Lib.hid hsv.far.2.1; have HBM := Lib.hid (show b < w.heap.size ∧ mb < w.heap.size ∧ mc < w.heap.size from ⟨(hwk.lt (i := b) (.inl rfl)).2, (hwk.lt (i := mb) (.inr (.inl rfl))).2, (hwk.lt (i := mc) (.inr (.inr (.inl rfl)))).2⟩); have HRB := Lib.hid (fun i (hi : (Value.slice oa P.length oc).ownBlock = some i) => (hwk.row.lt i hi).2)
  clear hb2 hx0 hx1 hz2 hW2 hwk2 hsv2 hix hiy hdd hx hxu hy hyu hk hxs hys hnd hP hbs hwk hsv hxl hyl hsB hbig
  refine callsIn_wide (n := 9) |>.1 ?_
  refine callsIn_of_wp_marks Try.func90 rfl trivial ?_ rfl
  simp only [Try.ntmps90, List.size_toArray, List.length_cons, List.length_nil, Nat.reduceAdd, Nat.reduceSub, Array.replicate_succ, Array.replicate_zero, List.push_toArray, List.append_toArray, List.nil_append, List.cons_append]
  gi_upto_region 1 with fail
  rw [HW2.out]
  have hsk : ∀ W, Below W2.heap.size W2 W → SV Bv s g cap L C K W H ∧ Kp Bs (fun i => i = g) w W := fun W hb => ⟨HSV2.out.below hb, Kp.of_below ((HB2.out.tr hb (Nat.le_refl _)).mono HBS.out)⟩
  have HSK := Lib.hid hsk
  clear hsk
  have hb3 : Below W2.heap.size W2 (W2.alloc (.cells #[] 161)) := (Below.refl _ _).alloc (Nat.le_refl _) _
  have HB3 := Lib.hid hb3
  clear hb3
  cases dd with
  | true =>
    gi_wp2
    refine ⟨.tuple #[], by simp [results, Try.f90, go_sem], oa, oc, ⟨_, rfl⟩, (HSK.out _ HB3.out).1, (HSK.out _ HB3.out).2, ?_⟩
    rw [if_pos (.inl (of_decide_eq_true HDD.out))]
    exact HWK2.out.below HB3.out
  | false =>
    by_cases hxy : x = y
    · have hxb : ((x : Int) == (y : Int)) = true := by simp [hxy]
      have hxb' : (x == y) = true := by simp [hxy]
      have HXY := Lib.hid hxy
      clear hxy
      gi_wp2
      refine ⟨.tuple #[], by simp [results, Try.f90, go_sem], oa, oc, ⟨_, rfl⟩, (HSK.out _ HB3.out).1, (HSK.out _ HB3.out).2, ?_⟩
      rw [if_pos (.inr HXY.out)]
      exact HWK2.out.below HB3.out
    · have hxb : ((x : Int) == (y : Int)) = false := by simp; omega
      have hxb' : (x == y) = false := by simp [hxy]
      have HXY := Lib.hid hxy
      clear hxy
      gi_upto_region 3 with fail
      obtain ⟨W3, hW3⟩ : ∃ W, W2.alloc (.cells #[] 161) = W := ⟨_, rfl⟩
      rw [hW3]
      have hb3 := HB3.out
      rw [hW3] at hb3
      have hwk3 := HWK2.out.below hb3
      have hx03 := (hb3.block w.heap.size (by have := HZ2.out; omega)).trans HX0.out
      have hx13 := (hb3.block (w.heap.size + 1) (by have := HZ2.out; omega)).trans HX1.out
      have d0 : W3.cell? ⟨w.heap.size, 0, none⟩ = some (.pointer (some ⟨b, 0, none⟩)) := cell_box hx03 rfl rfl
      have b2 : W3.cell? ⟨b, 2, none⟩ = some (.map (some mb)) := cell_box hwk3.box rfl rfl
      obtain ⟨W4, hrun, hdn, hgr⟩ := dn_put hwk3.dn HIX.out HIY.out (by have := HND.out; unfold maxLen; omega)
      have ho := hwk3.own
      have hml := (hwk3.lt (i := mb) (.inr (.inl rfl))).2
      have far : ∀ i, i < W3.heap.size → i ≠ mb → W4.heap[i]? = W3.heap[i]? := fun i h1 h2 => hgr.block i h1 (fun e => by injection e with e; exact h2 e)
      have hz3 : w.heap.size + 2 ≤ W3.heap.size := by have := hb3.size; have := HZ2.out; omega
      have hmw : mb < w.heap.size := HMW.out
      have hsf := (HSV2.out.below hb3).far
      have hms : mb ≠ s ∧ mb ≠ g := by have := hwk3.apart (HSV2.out.below hb3) (i := mb) (.inr (.inl rfl)); exact this
      have hwk4 : WK Bs b s oa oc mb mc (nd + 1) ns W4 P ((x, y) :: D) S :=
        ⟨(far b (hwk3.lt (.inl rfl)).2 ho.1).trans hwk3.box, own_same hwk3.row (fun i hi => far i (hwk3.row.lt i hi).2 (ho.2.2.2 i hi).2.1), hdn, hwk3.st.same (far mc (hwk3.lt (.inr (.inr (.inl rfl)))).2 (fun e => hwk3.ne e.symm)), hwk3.lb, hwk3.lm, hwk3.lc, hwk3.ne⟩
      have hsv4 := (HSV2.out.below hb3).same (far s hsf.2.2.1 (fun e => hms.1 e.symm)) (far g hsf.2.1 (fun e => hms.2 e.symm))
      have hkp4 : Kp Bs (fun i => i = g) w W4 := ((HSK.out _ hb3).2.grown hgr (by have := HBS.out; omega) (fun i hi => .inl (by injection hi with hi; rw [← hi]; exact hwk3.lm)))
      have hz4 : W3.heap.size ≤ W4.heap.size := hgr.size
      have hx04 := (far w.heap.size (by omega) (by omega)).trans hx03
      have hx14 := (far (w.heap.size + 1) (by omega) (by omega)).trans hx13
      have HWK4 := Lib.hid hwk4; have HSV4 := Lib.hid hsv4; have HKP4 := Lib.hid hkp4; have HZ4 := Lib.hid (show w.heap.size + 2 ≤ W4.heap.size by omega); have HX04 := Lib.hid hx04; have HX14 := Lib.hid hx14
      clear hb3 hwk3 hx03 hx13 hdn hgr ho hml far hz3 hmw hsf hms hwk4 hsv4 hkp4 hz4 hx04 hx14 hW3
      gi_upto_region 4 with fail
      clear hrun d0 b2 hlk
      have d0 : W4.cell? ⟨w.heap.size, 0, none⟩ = some (.pointer (some ⟨b, 0, none⟩)) := cell_box HX04.out rfl rfl
      have b0 : W4.cell? ⟨b, 0, none⟩ = some (.pointer (some ⟨s, 0, none⟩)) := cell_box HWK4.out.box rfl rfl
      have hky := skids12_any HSV4.out HY.out (r := dy) (by rw [HYU.out]; exact HY.out)
      rw [HYS.out] at hky
      have HKY := Lib.hid hky
      clear hky
      gi_wp2
      refine ⟨trivial, ?_⟩
      refine (callsIn_wide.2 HKY.out).mono ?_
      clear HKY d0 b0
      rintro e w5 ⟨ya, yc, rfl, hiy', hsv, hk⟩
      rw [List.length_map]
      obtain ⟨ny, hny⟩ : ∃ n, ys.length = n := ⟨_, rfl⟩
      rw [hny]
      have hz5 := hk.size
      have hwk5 := HWK4.out.kp HSV4.out (hk.mono (Nat.le_refl _) (fun _ _ h => .inr h))
      have hg4 := HSV4.out.far
      have hgw : ∀ i, i < w.heap.size + 2 → w.heap.size ≤ i → i ≠ g := fun i h1 h2 e => by have := HGW.out; omega
      have hx05 := hk.heap HX04.out (by have := HZ4.out; omega) (hgw _ (by omega) (by omega))
      have hx15 := hk.heap HX14.out (by have := HZ4.out; omega) (hgw _ (by omega) (by omega))
      have hkp5 := HKP4.out.trans (hk.mono (by have := HZ4.out; have := HBS.out; omega) (fun _ _ h => h))
      obtain ⟨W6, hW6⟩ : ∃ W, w5.alloc (.cells #[.slice ya ny yc] 27) = W := ⟨_, rfl⟩
      have hb6 : Below w5.heap.size w5 W6 := by rw [← hW6]; exact (Below.refl _ _).alloc (Nat.le_refl _) _
      have hx6 : W6.heap[w5.heap.size]? = some (.cells #[.slice ya ny yc] 27) := by rw [← hW6]; exact World.alloc_heap_new _ _
      have hz6 : W6.heap.size = w5.heap.size + 1 := by rw [← hW6, World.size_alloc]
      have hiy6 := hiy'.keep (fun i h1 h2 => hb6.block i h2) hb6.size
      have hwk6 := hwk5.below hb6
      have hsv6 := hsv.below hb6
      have hx06 := (hb6.block w.heap.size (by have := HZ4.out; omega)).trans hx05
      have hx16 := (hb6.block (w.heap.size + 1) (by have := HZ4.out; omega)).trans hx15
      have hkp6 := hkp5.trans (Kp.of_below (M := fun i => i = g) (hb6.mono (show Bs ≤ w5.heap.size by have := HZ4.out; have := HBS.out; omega)))
      have HWK6 := Lib.hid hwk6; have HSV6 := Lib.hid hsv6; have HKP6 := Lib.hid hkp6; have HX06 := Lib.hid hx06; have HX16 := Lib.hid hx16; have HX6 := Lib.hid hx6; have HIY6 := Lib.hid hiy6; have HZ6 := Lib.hid hz6; have HNY := Lib.hid hny; have HZ45 := Lib.hid hz5
      clear hz5 hwk5 hg4 hgw hx05 hx15 hkp5 hb6 hx6 hz6 hiy6 hwk6 hsv6 hx06 hx16 hkp6 hny hsv hk hiy'
      gi_upto_region 5 with fail
      clear hW6
      have d0 : W6.cell? ⟨w.heap.size, 0, none⟩ = some (.pointer (some ⟨b, 0, none⟩)) := cell_box HX06.out rfl rfl
      have b0 : W6.cell? ⟨b, 0, none⟩ = some (.pointer (some ⟨s, 0, none⟩)) := cell_box HWK6.out.box rfl rfl
      have hkx := skids12_any HSV6.out HX.out (r := dx) (by rw [HXU.out]; exact HX.out)
      rw [HXS.out] at hkx
      have HKX := Lib.hid hkx
      clear hkx
      gi_wp2
      refine ⟨trivial, ?_⟩
      refine (callsIn_wide.2 HKX.out).mono ?_
      clear HKX d0 b0
      rintro e w7 ⟨xa, xc, rfl, hix', hsv, hk⟩
      rw [List.length_map]
      obtain ⟨n, hn⟩ : ∃ n, xs.length = n := ⟨_, rfl⟩
      rw [hn]
      have hz7 := hk.size
      have hwk7 := HWK6.out.kp HSV6.out (hk.mono (Nat.le_refl _) (fun _ _ h => .inr h))
      have hgw : ∀ i, i < w.heap.size + 2 → w.heap.size ≤ i → i ≠ g := fun i h1 h2 e => by have := HGW.out; omega
      have hx07 := hk.heap HX06.out (by have := HZ4.out; have := HZ45.out; have := HZ6.out; omega) (hgw _ (by omega) (by omega))
      have hx17 := hk.heap HX16.out (by have := HZ4.out; have := HZ45.out; have := HZ6.out; omega) (hgw _ (by omega) (by omega))
      have hx7 := hk.heap HX6.out (by have := HZ6.out; omega) (by have := HGW.out; have := HZ4.out; have := HZ45.out; omega)
      have hiy7 := HIY6.out.keep (fun i h1 h2 => hk.block i h2 (by have := HGW.out; have := HZ4.out; omega)) hz7
      have hkp7 := HKP6.out.trans (hk.mono (by have := HZ4.out; have := HZ45.out; have := HZ6.out; have := HBS.out; omega) (fun _ _ h => h))
      have HWK7 := Lib.hid hwk7; have HSV7 := Lib.hid hsv; have HKP7 := Lib.hid hkp7; have HX07 := Lib.hid hx07; have HX17 := Lib.hid hx17; have HX7 := Lib.hid hx7; have HIY7 := Lib.hid hiy7; have HIX7 := Lib.hid hix'; have HNN := Lib.hid hn; have HZ67 := Lib.hid hz7
      clear hz7 hwk7 hgw hx07 hx17 hx7 hiy7 hkp7 hsv hk hix' hn
      gi_wp2
      refine ⟨trivial, ?_⟩
      refine (callsIn_wide.2 (backI_any xa n xc w7)).mono ?_
      rintro e w' ⟨rfl, rfl⟩
      obtain ⟨W8, hW8⟩ : ∃ W, w7.alloc (.cells #[.slice xa n xc] 27) = W := ⟨_, rfl⟩
      rw [hW8]
      gi_wp2
      have hl2 : xs.length ≤ 2 := by have h9 := congrArg List.length HXS.out; rw [kidL_len, List.length_map] at h9; have := ar_le dx.c.kind; omega
      have hly : ys.length = xs.length := by
        have h9 := congrArg List.length HXS.out; rw [kidL_len, List.length_map] at h9
        have h8 := congrArg List.length HYS.out; rw [kidL_len, List.length_map, ← HKE.out] at h8
        omega
      have e1 : n = xs.length := HNN.out.symm
      have e2 : ny = xs.length := HNY.out.symm.trans hly
      subst e1 e2
      have hseq := backI_seq w7.heap.size (xs.map fun (n : Nat) => (n : Int)) xa xc (by rw [List.length_map]; omega)
      rw [List.length_map] at hseq
      have hb8 : Below w7.heap.size w7 W8 := by rw [← hW8]; exact (Below.refl _ _).alloc (Nat.le_refl _) _
      have hx8 : W8.heap[w7.heap.size]? = some (.cells #[.slice xa xs.length xc] 27) := by rw [← hW8]; exact World.alloc_heap_new _ _
      have hz8 : W8.heap.size = w7.heap.size + 1 := by rw [← hW8, World.size_alloc]
      have hs7 := HSV7.out.far
      have h0 : PkI Bs b s mb mc nd ns P D S Bv g cap L C K H x y xs ys fr w w5.heap.size w7.heap.size W8.heap.size xa ya xc yc 0 oa oc W8 := by
        have := HZ4.out; have := HZ45.out; have := HZ6.out; have := HZ67.out; have := HBS.out; have := HSB.out; have := HGW.out
        refine ⟨?_, HSV7.out.below hb8, HKP7.out.trans (Kp.of_below (M := fun i => i = g) (hb8.mono (by omega))), (hb8.block _ (by omega)).trans HX07.out, (hb8.block _ (by omega)).trans HX17.out, (hb8.block _ (by omega)).trans HX7.out, hx8, HIX7.out.1.keep (fun bq o e => hb8.block bq (HIX7.out.2 bq o e).2), HIY7.out.1.keep (fun bq o e => hb8.block bq (HIY7.out.2 bq o e).2), ?_, HBM.out, fun bq o e => ?_, fun bq o e => ?_, ?_⟩
        · rw [Nat.sub_zero, List.drop_length]
          have e : pks fr [] (ys.drop xs.length) = [] := rfl
          rw [e, List.nil_append]
          exact HWK7.out.below hb8
        · intro i hi
          rw [Nat.sub_zero, List.drop_length] at hi
          have e : pks fr [] (ys.drop xs.length) = [] := rfl
          rw [e, List.nil_append] at hi
          exact .inl (HRB.out i hi)
        · have := HIX7.out.2 bq o e; omega
        · have := HIY7.out.2 bq o e; omega
        · omega
      have H0 := Lib.hid h0; have HL2 := Lib.hid hl2; have HLY := Lib.hid hly
      clear hl2 hly hb8 hx8 hz8 hs7 hW8 h0
      refine wpIn_range_bw (a₁ := fun i W => { tmps := #[.pointer (some ⟨b, 0, none⟩), .int .i64 (x : Int), .int .i64 (y : Int), .bool fr, .pointer (some ⟨w.heap.size, 0, none⟩), undef, undef, .pointer (some ⟨w.heap.size + 1, 0, none⟩), .pointer (some ⟨W2.heap.size, 0, none⟩), .bool false, .pointer (some ⟨w5.heap.size, 0, none⟩), .int .i64 (i : Int), .int .i64 ((xs.map fun (n : Nat) => (n : Int)).getD i 0), .tuple #[.agg #[], .bool false], .pointer (some ⟨b, 0, none⟩), .pointer (some ⟨b, 0, none⟩), .pointer (some ⟨b, 2, none⟩), .map (some mb), .int .i64 (x : Int), .int .i64 (y : Int), .agg #[.int .i64 (x : Int), .int .i64 (y : Int)], .tuple #[.agg #[], .bool false], .agg #[], .bool false, .bool false, .bool false, .int .i64 (x : Int), .int .i64 (y : Int), .bool false, .bool false, .pointer (some ⟨b, 0, none⟩), .pointer (some ⟨b, 0, none⟩), .pointer (some ⟨b, 2, none⟩), .map (some mb), .int .i64 (x : Int), .int .i64 (y : Int), .agg #[.int .i64 (x : Int), .int .i64 (y : Int)], .agg #[], .pointer (some ⟨b, 0, none⟩), .pointer (some ⟨b, 0, none⟩), .pointer (some ⟨b, 0, none⟩), .pointer (some ⟨s, 0, none⟩), .int .i64 (y : Int), .slice ya xs.length yc, .pointer (some ⟨b, 0, none⟩), .pointer (some ⟨b, 0, none⟩), .pointer (some ⟨b, 0, none⟩), .pointer (some ⟨s, 0, none⟩), .int .i64 (x : Int), .slice xa xs.length xc, .func (.func 135) #[] #[.pointer (some ⟨w7.heap.size, 0, none⟩)], .int .i64 (i : Int), .int .i64 ((xs.map fun (n : Nat) => (n : Int)).getD i 0), undef, undef, undef, undef, undef, undef, undef, undef, undef, undef, undef, undef, undef, undef, undef, undef], defers := [] }) (As := fun i W => W)
        rfl (enters_of Try.func135 (by kernel_rfl) rfl) hseq (fun _ => rfl)
        (fun k W => ∃ oa' oc', PkI Bs b s mb mc nd ns P D S Bv g cap L C K H x y xs ys fr w w5.heap.size w7.heap.size W8.heap.size xa ya xc yc k oa' oc' W) (fun _ _ _ => False) (fun i W => Turns.refl _ _) ?src ?inv (fun _ _ _ _ h _ => h) ?start ?assign ?body ?done ?stop
      case src =>
        rintro k W ⟨oa', oc', J⟩
        exact ⟨by rw [List.length_map]; exact cell_box J.b3 rfl rfl, J.ix⟩
      case inv =>
        rintro k A E ⟨oa', oc', J⟩ hT
        exact ⟨oa', oc', J.turn HBS.out hT⟩
      case start => exact ⟨oa, oc, H0.out⟩
      case assign =>
        intro l i W K hK
        generalize (xs.map fun (n : Nat) => (n : Int)).getD i 0 = z at hK ⊢
        gi_wp2
        exact hK
      case stop => rintro c k W h; exact h.elim
      case done =>
        rintro W ⟨oa', oc', J⟩ hlt hK
        have JJ := Lib.hid J; have HKK := Lib.hid hK; have HLT := Lib.hid hlt
        clear J hK hlt
        gi_wp2
        refine ⟨by simp, .inl ⟨_, _, rfl, run_takeDeferred HKK.out, ?_⟩⟩
        have hfr : ∀ i, i < W8.heap.size ∨ W8.heap.size + 2 ≤ i → (W.putObj W8.heap.size (.deferred none)).heap[i]? = W.heap[i]? := fun i hi => World.putObj_heap_other (by omega)
        obtain ⟨g1, g2, g3, g4, g5, g6, g7, g8⟩ := JJ.out.gs
        refine ⟨.tuple #[], by simp [results, Try.f90, go_sem], oa', oc', ⟨_, rfl⟩, JJ.out.sv.same (hfr s (.inl g1)) (hfr g (.inl g2)), ⟨JJ.out.kp.os, JJ.out.kp.tape, JJ.out.kp.output, by rw [World.putObj_size]; exact JJ.out.kp.size, fun i hi hm => (hfr i (.inl (by have := HBS.out; omega))).trans (JJ.out.kp.block i hi hm)⟩, ?_⟩
        rw [if_neg (fun h => by rcases h with h | h; exact absurd (decide_eq_true h) (by rw [HDD.out]; decide); exact HXY.out h)]
        have hwk := JJ.out.wk.keep (w' := W.putObj W8.heap.size (.deferred none)) (fun i hi => hfr i (JJ.out.far i hi))
        rw [Nat.sub_self] at hwk
        exact hwk
      case body =>
        rintro l k W Wb hkn ⟨oa', oc', J⟩ hlt hT hz2
        have J2 := J.turn HBS.out ⟨hT.os, hT.tape, hT.output, hT.size, fun i hi hm => hT.block i hi (fun e => hm (.inr e))⟩
        obtain ⟨i, hi⟩ : ∃ i, xs.length - 1 - k = i := ⟨_, rfl⟩
        have hil : i < xs.length := by omega
        have hiy : i < ys.length := by rw [HLY.out]; exact hil
        have hgd : (xs.map fun (n : Nat) => (n : Int)).getD i 0 = (xs[i] : Int) := by rw [List.getD_eq_getElem?_getD, List.getElem?_map, List.getElem?_eq_getElem hil]; rfl
        rw [hi, hgd]
        obtain ⟨bq, oq, hya, hcy⟩ := J2.iy i (by rw [List.length_map]; exact hiy)
        rw [List.getElem_map] at hcy
        obtain ⟨xi, hxi⟩ : ∃ z, xs[i] = z := ⟨_, rfl⟩
        obtain ⟨yi, hyi⟩ : ∃ z, ys[i] = z := ⟨_, rfl⟩
        rw [hyi] at hcy
        rw [hxi]
        have hstk : pks fr (xs.drop (xs.length - (k + 1))) (ys.drop (xs.length - (k + 1))) ++ P = ⟨xi, yi, fr⟩ :: (pks fr (xs.drop (xs.length - k)) (ys.drop (xs.length - k)) ++ P) := by
          rw [show xs.length - (k + 1) = i from by omega, show xs.length - k = i + 1 from by omega, List.drop_eq_getElem_cons hil, List.drop_eq_getElem_cons hiy, hxi, hyi]; rfl
        obtain ⟨Q, hQ⟩ : ∃ Q, pks fr (xs.drop (xs.length - k)) (ys.drop (xs.length - k)) ++ P = Q := ⟨_, rfl⟩
        have hQl : Q.length ≤ 4000002 := by
          have key : ∀ a c : List Nat, (pks fr a c).length ≤ a.length := fun a => by
            induction a with
            | nil => intro c; simp [pks]
            | cons a r ih => intro c; cases c with
              | nil => simp [pks]
              | cons c q => simp only [pks, List.length_cons]; have := ih q; omega
          rw [← hQ, List.length_append]
          have h1 := key (xs.drop (xs.length - k)) (ys.drop (xs.length - k))
          rw [List.length_drop] at h1
          have := HP.out; have := HL2.out; omega
        obtain ⟨N, hN⟩ : ∃ N, Q.length = N := ⟨_, rfl⟩
        have hbx := J2.wk.box
        have hrow := J2.wk.row
        rw [hQ, hN] at hbx hrow
        have hgs := J2.gs
        have hm2 : Try.prog.follows .mixedOrders = true := by kernel_rfl
        gi_upto_region 8 with fail
        obtain ⟨i0, hi0, hz0, hz1, hz2⟩ := info_parts3 info_pr
        obtain ⟨U0, hU0⟩ : ∃ x, Wb.drew = x := ⟨_, rfl⟩
        have hs0 : U0.cell? ⟨w.heap.size, 0, none⟩ = some (.pointer (some ⟨b, 0, none⟩)) ∧ U0.cell? ⟨w.heap.size + 1, 0, none⟩ = some (.bool fr) ∧ U0.cell? ⟨w5.heap.size, 0, none⟩ = some (.slice ya xs.length yc) ∧ U0.cell? ⟨bq, oq + i, none⟩ = some (.int .i64 (yi : Int)) := by rw [← hU0]; exact ⟨cell_box (w := Wb.drew) J2.b0 rfl rfl, cell_box (w := Wb.drew) J2.b1 rfl rfl, cell_box (w := Wb.drew) J2.b2 rfl rfl, hcy⟩
        obtain ⟨V, hV⟩ : ∃ V, U0.alloc (.cells #[.int .i64 (xi : Int), .int .i64 (yi : Int), .bool fr] 113) = V := ⟨_, rfl⟩
        have hbV : Below U0.heap.size U0 V := by rw [← hV]; exact (Below.refl _ _).alloc (Nat.le_refl _) _
        have hzV : V.heap.size = Wb.heap.size + 1 := by rw [← hV, World.size_alloc, ← hU0]; rfl
        have hc4 : ∀ U : World, (∀ z, z < Wb.heap.size → (Value.slice oa' N oc').ownBlock ≠ some z → U.heap[z]? = U0.heap[z]?) → U.cell? ⟨w.heap.size, 0, none⟩ = some (.pointer (some ⟨b, 0, none⟩)) ∧ U.cell? ⟨w.heap.size + 1, 0, none⟩ = some (.bool fr) ∧ U.cell? ⟨w5.heap.size, 0, none⟩ = some (.slice ya xs.length yc) ∧ U.cell? ⟨bq, oq + i, none⟩ = some (.int .i64 (yi : Int)) := fun U hU => by
          obtain ⟨r1, r2, r3, r4, r5, r6, r7, r8⟩ := hgs
          have hrb := J2.rb; rw [hQ, hN] at hrb
          have hgy := J2.gy bq oq hya
          have cc : ∀ a o u, a < W8.heap.size → w.heap.size ≤ a → U0.cell? ⟨a, o, none⟩ = some u → U.cell? ⟨a, o, none⟩ = some u := fun a o u h1 h2 hc => (World.cell?_of_block (a := ⟨a, o, none⟩) (hU a (by omega) (fun e => by have := hrb a e; omega))).trans hc
          exact ⟨cc _ _ _ (by omega) (by omega) hs0.1, cc _ _ _ (by omega) (by omega) hs0.2.1, cc _ _ _ (by omega) (by omega) hs0.2.2.1, cc _ _ _ hgy.1 hgy.2.1 hs0.2.2.2⟩
        have hs1 := hc4 V (fun z h1 _ => hbV.block z (by rw [← hU0]; exact h1))
        have hsa : ∀ U : World, V.grownBy U (Value.slice oa' N oc').ownBlock → U.cell? ⟨w.heap.size, 0, none⟩ = some (.pointer (some ⟨b, 0, none⟩)) ∧ U.cell? ⟨w.heap.size + 1, 0, none⟩ = some (.bool fr) ∧ U.cell? ⟨w5.heap.size, 0, none⟩ = some (.slice ya xs.length yc) ∧ U.cell? ⟨bq, oq + i, none⟩ = some (.int .i64 (yi : Int)) := fun U hgr => hc4 U (fun z h1 h2 => (hgr.block z (by omega) (fun e => h2 e.symm)).trans (hbV.block z (by rw [← hU0]; exact h1)))
        have hbx0 : U0.heap[b]? = some (.cells #[.pointer (some ⟨s, 0, none⟩), .slice oa' N oc', .map (some mb), .map (some mc)] 117) := by rw [← hU0]; exact hbx
        have hbxV := (hbV.block b (Array.getElem?_eq_some_iff.1 hbx0).1).trans hbx0
        have hbA : ∀ U : World, V.grownBy U (Value.slice oa' N oc').ownBlock → U.cell? ⟨b, 1, none⟩ = some (.slice oa' N oc') ∧ U.frozen? ⟨b, 1, none⟩ = false := fun U hgr => by
          have h9 := (hgr.block b (Array.getElem?_eq_some_iff.1 hbxV).1 (fun e => by have h8 := J2.wk.own.2.2.2 b (by rw [hQ, hN]; exact e.symm); exact h8.1 rfl)).trans hbxV
          exact ⟨cell_box h9 rfl rfl, IsC.frozen ⟨_, _, h9⟩⟩
        have hsF : ∀ U : World, (U.cell? ⟨w.heap.size, 0, none⟩ = some (.pointer (some ⟨b, 0, none⟩)) ∧ U.cell? ⟨w.heap.size + 1, 0, none⟩ = some (.bool fr) ∧ U.cell? ⟨w5.heap.size, 0, none⟩ = some (.slice ya xs.length yc) ∧ U.cell? ⟨bq, oq + i, none⟩ = some (.int .i64 (yi : Int))) → ∀ v, (U.setCell ⟨b, 1, none⟩ v).cell? ⟨w.heap.size, 0, none⟩ = some (.pointer (some ⟨b, 0, none⟩)) ∧ (U.setCell ⟨b, 1, none⟩ v).cell? ⟨w.heap.size + 1, 0, none⟩ = some (.bool fr) ∧ (U.setCell ⟨b, 1, none⟩ v).cell? ⟨w5.heap.size, 0, none⟩ = some (.slice ya xs.length yc) ∧ (U.setCell ⟨b, 1, none⟩ v).cell? ⟨bq, oq + i, none⟩ = some (.int .i64 (yi : Int)) := fun U ⟨k0, k1, k2, k3⟩ v => by
          obtain ⟨r1, r2, r3, r4, r5, r6, r7, r8⟩ := hgs
          have hgy := J2.gy bq oq hya
          have hbm := HBM.out.1
          have cc : ∀ a o u, w.heap.size ≤ a → U.cell? ⟨a, o, none⟩ = some u → (U.setCell ⟨b, 1, none⟩ v).cell? ⟨a, o, none⟩ = some u := fun a o u h2 hc => (World.cell?_of_block (a := ⟨a, o, none⟩) (Below.heap_setCell _ _ _ a (by dsimp only; omega))).trans hc
          exact ⟨cc _ _ _ (Nat.le_refl _) k0, cc _ _ _ (by omega) k1, cc _ _ _ (by omega) k2, cc _ _ _ hgy.2.1 k3⟩
        have hownV : V.ownsRow Bs 113 3 (.slice oa' N oc') N (prRow Q) := own_same hrow (fun z hz => (hbV.block z (by have := (hrow.lt z hz).2; rw [← hU0]; exact this)).trans (by rw [← hU0]; rfl))
        have hnews : ∀ j u, [Value.int .i64 (xi : Int), .int .i64 (yi : Int), .bool fr][j]? = some u → V.cell? ((⟨U0.heap.size, 0, none⟩ : Addr).add j) = some u := World.news_of_block (B := U0.heap.size) (cs := #[.int .i64 (xi : Int), .int .i64 (yi : Int), .bool fr]) (by rw [← hV]; exact World.alloc_heap_new U0 _)
        have hcap : N + 1 ≤ maxLen ∧ (N + 1) * 24 ≤ 140737488355328 := by unfold maxLen; omega
        have HS0 := Lib.hid hs0; have HS1 := Lib.hid hs1; have HSA := Lib.hid hsa; have HBA := Lib.hid hbA; have HSF := Lib.hid hsF; have HOWV := Lib.hid hownV; have HNEWS := Lib.hid hnews; have HCAP := Lib.hid hcap; have HB1 := Lib.hid (cell_box hbx0 rfl rfl : U0.cell? ⟨b, 1, none⟩ = some (.slice oa' N oc')); have HB1V := Lib.hid (cell_box hbxV rfl rfl : V.cell? ⟨b, 1, none⟩ = some (.slice oa' N oc')); have HV := Lib.hid hV; have HZV := Lib.hid hzV; have HBSV := Lib.hid (show Bs ≤ V.heap.size by have := HBS.out; have := J2.kp.size; omega)
        obtain ⟨p1, p2⟩ := pt_int hil
        clear hs0 hs1 hsa hbA hsF hownV hnews hcap hc4 hbV hzV hbx0 hbxV hcy hbx hrow
        refine wpIn_region_round hm2 (by kernel_rfl) (by rintro ⟨_, _, h⟩; exact h) ?_
        rw [hU0]
        refine wpAny_of_held (S := fun z => z.cell? ⟨w.heap.size, 0, none⟩ = some (.pointer (some ⟨b, 0, none⟩)) ∧ z.cell? ⟨w.heap.size + 1, 0, none⟩ = some (.bool fr) ∧ z.cell? ⟨w5.heap.size, 0, none⟩ = some (.slice ya xs.length yc) ∧ z.cell? ⟨bq, oq + i, none⟩ = some (.int .i64 (yi : Int))) _ _ _ _ ?_
        subst hya
        refine wpAnyH_take (i := 0) (oi := ⟨some 53, _, _, _, _, _⟩) (v := ?_) rfl (by kernel_rfl) (by kernel_rfl) (by kernel_rfl) (fun _ _ _ h => h.elim) (Or.inl ⟨by rfl, ?_⟩) HS0.out ?_
        rotate_left
        · (intro xx hSw; obtain ⟨c0, c1, c2, c3⟩ := hSw; go_simp; (try with_reducible rfl))
        try simp only [Act.put, List.setIfInBounds_toArray, List.set_cons_zero, List.set_cons_succ]
        refine wpAnyH_take (i := 1) (oi := ⟨some 54, _, _, _, _, _⟩) (v := ?_) rfl (by kernel_rfl) (by kernel_rfl) (by kernel_rfl) (fun _ _ _ h => h.elim) (Or.inl ⟨by rfl, ?_⟩) HS0.out ?_
        rotate_left
        · (intro xx hSw; obtain ⟨c0, c1, c2, c3⟩ := hSw; go_simp; (try with_reducible rfl))
        try simp only [Act.put, List.setIfInBounds_toArray, List.set_cons_zero, List.set_cons_succ]
        refine wpAnyH_take (i := 2) (oi := ⟨some 55, _, _, _, _, _⟩) (v := ?_) rfl (by kernel_rfl) (by kernel_rfl) (by kernel_rfl) (fun _ _ _ h => h.elim) (Or.inl ⟨by rfl, ?_⟩) HS0.out ?_
        rotate_left
        · (intro xx hSw; obtain ⟨c0, c1, c2, c3⟩ := hSw; go_simp; (try with_reducible rfl))
        try simp only [Act.put, List.setIfInBounds_toArray, List.set_cons_zero, List.set_cons_succ]
        refine wpAnyH_take (i := 3) (oi := ⟨some 56, _, _, _, _, _⟩) (v := ?_) rfl (by kernel_rfl) (by kernel_rfl) (by kernel_rfl) (fun _ _ _ h => h.elim) (Or.inl ⟨by rfl, ?_⟩) HS0.out ?_
        rotate_left
        · (intro xx hSw; obtain ⟨c0, c1, c2, c3⟩ := hSw; go_simp; (try with_reducible rfl))
        try simp only [Act.put, List.setIfInBounds_toArray, List.set_cons_zero, List.set_cons_succ]
        refine wpAnyH_take (i := 5) (oi := ⟨some 58, _, _, _, _, _⟩) (v := ?_) rfl (by kernel_rfl) (by kernel_rfl) (by kernel_rfl) (fun _ _ _ h => h.elim) (Or.inl ⟨by rfl, ?_⟩) HS0.out ?_
        rotate_left
        · (intro xx hSw; obtain ⟨c0, c1, c2, c3⟩ := hSw; go_simp; (try with_reducible rfl))
        try simp only [Act.put, List.setIfInBounds_toArray, List.set_cons_zero, List.set_cons_succ]
        refine wpAnyH_take (i := 6) (oi := ⟨some 59, _, _, _, _, _⟩) (v := ?_) rfl (by kernel_rfl) (by kernel_rfl) (by kernel_rfl) (fun _ _ _ h => h.elim) (Or.inl ⟨by rfl, ?_⟩) HS0.out ?_
        rotate_left
        · (intro xx hSw; obtain ⟨c0, c1, c2, c3⟩ := hSw; go_simp; (try with_reducible rfl))
        try simp only [Act.put, List.setIfInBounds_toArray, List.set_cons_zero, List.set_cons_succ]
        refine wpAnyH_take (i := 7) (oi := ⟨some 60, _, _, _, _, _⟩) (v := ?_) rfl (by kernel_rfl) (by kernel_rfl) (by kernel_rfl) (fun _ _ _ h => h.elim) (Or.inl ⟨by rfl, ?_⟩) HS0.out ?_
        rotate_left
        · (intro xx hSw; obtain ⟨c0, c1, c2, c3⟩ := hSw; go_simp; (try with_reducible rfl))
        try simp only [Act.put, List.setIfInBounds_toArray, List.set_cons_zero, List.set_cons_succ]
        refine wpAnyH_take (i := 8) (oi := ⟨some 61, _, _, _, _, _⟩) (v := ?_) rfl (by kernel_rfl) (by kernel_rfl) (by kernel_rfl) (fun _ _ _ h => h.elim) (Or.inl ⟨by rfl, ?_⟩) HS0.out ?_
        rotate_left
        · (intro xx hSw; obtain ⟨c0, c1, c2, c3⟩ := hSw; go_simp; (try with_reducible rfl))
        try simp only [Act.put, List.setIfInBounds_toArray, List.set_cons_zero, List.set_cons_succ]
        refine wpAnyH_take (i := 9) (oi := ⟨some 62, _, _, _, _, _⟩) (v := ?_) rfl (by kernel_rfl) (by kernel_rfl) (by kernel_rfl) (fun _ _ _ h => h.elim) (Or.inl ⟨by rfl, ?_⟩) HS0.out ?_
        rotate_left
        · (intro xx hSw; obtain ⟨c0, c1, c2, c3⟩ := hSw; go_simp; (try with_reducible rfl))
        try simp only [Act.put, List.setIfInBounds_toArray, List.set_cons_zero, List.set_cons_succ]
        refine wpAnyH_take (i := 10) (oi := ⟨some 63, _, _, _, _, _⟩) (v := ?_) rfl (by kernel_rfl) (by kernel_rfl) (by kernel_rfl) (fun _ _ _ h => h.elim) (Or.inl ⟨by rfl, ?_⟩) HS0.out ?_
        rotate_left
        · (intro xx hSw; obtain ⟨c0, c1, c2, c3⟩ := hSw; go_simp; (try with_reducible rfl))
        try simp only [Act.put, List.setIfInBounds_toArray, List.set_cons_zero, List.set_cons_succ]
        refine wpAnyH_take (i := 11) (oi := ⟨some 64, _, _, _, _, _⟩) (v := ?_) rfl (by kernel_rfl) (by kernel_rfl) (by kernel_rfl) (fun _ _ _ h => h.elim) (Or.inl ⟨by rfl, ?_⟩) HS0.out ?_
        rotate_left
        · (intro xx hSw; obtain ⟨c0, c1, c2, c3⟩ := hSw; go_simp; (try with_reducible rfl))
        try simp only [Act.put, List.setIfInBounds_toArray, List.set_cons_zero, List.set_cons_succ]
        refine wpAnyH_ready (rs := [4, 12]) (by kernel_rfl) (by simp) ?_
        refine AllReadyH.cons (o := ⟨some 57, _, _, _, _, _⟩) rfl (fun K hK => ?_) (AllReadyH.cons (o := ⟨some 65, _, _, _, _, _⟩) rfl (fun K hK => ?_) AllReadyH.nil)
        · skip
          have y1 := HB1.out
          go_simp
          refine hK.out _ _ HS0.out (fun _ => ?_)
          clear hK K y1
          try simp only [Act.put, List.setIfInBounds_toArray, List.set_cons_zero, List.set_cons_succ]
          refine wpAnyH_ready (rs := [12]) (by kernel_rfl) (by simp) ?_
          refine AllReadyH.cons (o := ⟨some 65, _, _, _, _, _⟩) rfl (fun K hK => ?_) AllReadyH.nil
          go_simp
          refine hK.out _ _ HS1.out (fun _ => ?_)
          clear hK K
          try simp only [Act.put, List.setIfInBounds_toArray, List.set_cons_zero, List.set_cons_succ]
          refine wpAnyH_ready (rs := [13]) (by kernel_rfl) (by simp) ?_
          refine AllReadyH.cons (o := ⟨some 66, _, _, _, _, _⟩) rfl (fun K hK => ?_) AllReadyH.nil
          refine step_append_lies _ rfl (.tmp 57) (.tmp 65) 114 rfl Bs 113 i0 (.agg #[.int .i64 0, .int .i64 0, .bool false]) 3 24 Try.underlying114 hi0 hz0 hz1 hz2 rfl (by decide) (.slice oa' N oc') N (prRow Q) rfl HOWV.out ⟨U0.heap.size, 0, none⟩ 1 1 [.int .i64 (xi : Int), .int .i64 (yi : Int), .bool fr] rfl rfl HNEWS.out (pr_one _ _ _) (by decide) HCAP.out.1 HCAP.out.2 HBSV.out _ rfl ?_
          intro g1 c1 U hown hgr hly hlt1
          have HSU := Lib.hid (HSA.out U hgr)
          have HBU := Lib.hid (HBA.out U hgr)
          refine hK.out _ _ HSU.out (fun _ => ?_)
          clear hK K
          try simp only [Act.put, List.setIfInBounds_toArray, List.set_cons_zero, List.set_cons_succ]
          refine wpAnyH_take (i := 14) (oi := ⟨some 67, _, _, _, _, _⟩) (v := ?_) rfl (by kernel_rfl) (by kernel_rfl) (by kernel_rfl) (fun _ _ _ h => h.elim) (Or.inl ⟨by rfl, ?_⟩) HSU.out ?_
          rotate_left
          · (intro xx hSw; obtain ⟨c0, c1, c2, c3⟩ := hSw; go_simp; (try with_reducible rfl))
          try simp only [Act.put, List.setIfInBounds_toArray, List.set_cons_zero, List.set_cons_succ]
          refine wpAnyH_take (i := 15) (oi := ⟨some 68, _, _, _, _, _⟩) (v := ?_) rfl (by kernel_rfl) (by kernel_rfl) (by kernel_rfl) (fun _ _ _ h => h.elim) (Or.inl ⟨by rfl, ?_⟩) HSU.out ?_
          rotate_left
          · (intro xx hSw; obtain ⟨c0, c1, c2, c3⟩ := hSw; go_simp; (try with_reducible rfl))
          try simp only [Act.put, List.setIfInBounds_toArray, List.set_cons_zero, List.set_cons_succ]
          refine wpAnyH_ready (rs := [16]) (by kernel_rfl) (by simp) ?_
          refine AllReadyH.cons (o := ⟨none, _, _, _, _, _⟩) rfl (fun K hK => ?_) AllReadyH.nil
          obtain ⟨y1, y2⟩ := HBU.out
          go_simp
          refine hK.out _ _ (HSF.out U HSU.out _) (fun _ => ?_)
          clear hK K y1 y2
          try simp only [Act.put, List.setIfInBounds_toArray, List.set_cons_zero, List.set_cons_succ]
          refine wpAnyH_done (by kernel_rfl) ?_ _
          have hpu := J2.push HBS.out HBM.out.1 (p := ⟨xi, yi, fr⟩) (Q := Q) hQ (hstk.trans (by rw [hQ])) (o := .cells #[.int .i64 (xi : Int), .int .i64 (yi : Int), .bool fr] 113) (U := U) (g1 := g1) (c1 := c1) (by rw [hU0, HV.out, hN]; exact hgr) (by rw [hN]; exact hown) (by rw [hN]; rw [HZV.out] at hly; exact hly) (by have h9 : W.heap.size ≤ Wb.heap.size := hT.size; omega)
          rw [hN] at hpu
          exact ⟨hpu.1, _, _, hpu.2⟩
        · skip
          go_simp
          refine hK.out _ _ HS1.out (fun _ => ?_)
          clear hK K
          try simp only [Act.put, List.setIfInBounds_toArray, List.set_cons_zero, List.set_cons_succ]
          refine wpAnyH_ready (rs := [4]) (by kernel_rfl) (by simp) ?_
          refine AllReadyH.cons (o := ⟨some 57, _, _, _, _, _⟩) rfl (fun K hK => ?_) AllReadyH.nil
          have y1 := HB1V.out
          go_simp
          refine hK.out _ _ HS1.out (fun _ => ?_)
          clear hK K y1
          try simp only [Act.put, List.setIfInBounds_toArray, List.set_cons_zero, List.set_cons_succ]
          refine wpAnyH_ready (rs := [13]) (by kernel_rfl) (by simp) ?_
          refine AllReadyH.cons (o := ⟨some 66, _, _, _, _, _⟩) rfl (fun K hK => ?_) AllReadyH.nil
          refine step_append_lies _ rfl (.tmp 57) (.tmp 65) 114 rfl Bs 113 i0 (.agg #[.int .i64 0, .int .i64 0, .bool false]) 3 24 Try.underlying114 hi0 hz0 hz1 hz2 rfl (by decide) (.slice oa' N oc') N (prRow Q) rfl HOWV.out ⟨U0.heap.size, 0, none⟩ 1 1 [.int .i64 (xi : Int), .int .i64 (yi : Int), .bool fr] rfl rfl HNEWS.out (pr_one _ _ _) (by decide) HCAP.out.1 HCAP.out.2 HBSV.out _ rfl ?_
          intro g1 c1 U hown hgr hly hlt1
          have HSU := Lib.hid (HSA.out U hgr)
          have HBU := Lib.hid (HBA.out U hgr)
          refine hK.out _ _ HSU.out (fun _ => ?_)
          clear hK K
          try simp only [Act.put, List.setIfInBounds_toArray, List.set_cons_zero, List.set_cons_succ]
          refine wpAnyH_take (i := 14) (oi := ⟨some 67, _, _, _, _, _⟩) (v := ?_) rfl (by kernel_rfl) (by kernel_rfl) (by kernel_rfl) (fun _ _ _ h => h.elim) (Or.inl ⟨by rfl, ?_⟩) HSU.out ?_
          rotate_left
          · (intro xx hSw; obtain ⟨c0, c1, c2, c3⟩ := hSw; go_simp; (try with_reducible rfl))
          try simp only [Act.put, List.setIfInBounds_toArray, List.set_cons_zero, List.set_cons_succ]
          refine wpAnyH_take (i := 15) (oi := ⟨some 68, _, _, _, _, _⟩) (v := ?_) rfl (by kernel_rfl) (by kernel_rfl) (by kernel_rfl) (fun _ _ _ h => h.elim) (Or.inl ⟨by rfl, ?_⟩) HSU.out ?_
          rotate_left
          · (intro xx hSw; obtain ⟨c0, c1, c2, c3⟩ := hSw; go_simp; (try with_reducible rfl))
          try simp only [Act.put, List.setIfInBounds_toArray, List.set_cons_zero, List.set_cons_succ]
          refine wpAnyH_ready (rs := [16]) (by kernel_rfl) (by simp) ?_
          refine AllReadyH.cons (o := ⟨none, _, _, _, _, _⟩) rfl (fun K hK => ?_) AllReadyH.nil
          obtain ⟨y1, y2⟩ := HBU.out
          go_simp
          refine hK.out _ _ (HSF.out U HSU.out _) (fun _ => ?_)
          clear hK K y1 y2
          try simp only [Act.put, List.setIfInBounds_toArray, List.set_cons_zero, List.set_cons_succ]
          refine wpAnyH_done (by kernel_rfl) ?_ _
          have hpu := J2.push HBS.out HBM.out.1 (p := ⟨xi, yi, fr⟩) (Q := Q) hQ (hstk.trans (by rw [hQ])) (o := .cells #[.int .i64 (xi : Int), .int .i64 (yi : Int), .bool fr] 113) (U := U) (g1 := g1) (c1 := c1) (by rw [hU0, HV.out, hN]; exact hgr) (by rw [hN]; exact hown) (by rw [hN]; rw [HZV.out] at hly; exact hly) (by have h9 : W.heap.size ≤ Wb.heap.size := hT.size; omega)
          rw [hN] at hpu
          exact ⟨hpu.1, _, _, hpu.2⟩
end
end Go.Proofs.Yteolbbgnkbcfmaa

/- agree.both's contract; agree.fit; a region that draws, with calls, in a round. -/
import Derived.Test.YteolbbgnkbcfmaaAgO
import Derived.Test.YteolbbgnkbcfmaaTyN
import Derived.Test.YteolbbgnkbcfmaaSeqA
import Derived.Test.YteolbbgnkbcfmaaTnB
namespace Go.Proofs.Yteolbbgnkbcfmaa
open Go Go.RowKit Go.Shelf
open Tp (T)

attribute [local go_sem] Oper.semAt_some

/-- The law for a region that draws, walked in the order of a plan, in a round. -/
theorem wpIn_region_seqR {P : Program} {Q : Exit → Act → World → Prop} {lp n id : Nat} {a : Act} {w : World} {l : List Oper} (plan : List (Nat × Bool)) (hm : P.follows .mixedOrders = true) (hs : Region.noSelect l.toArray = true)
    (hB : (decide (plan.length ≤ l.length) && seqB l.toArray plan (List.range l.length) (Array.replicate l.length false)) = true) (hQ : ∀ c a w (d : Option Tmp) (v : Value), Q (.panic c) (a.put d v) w → Q (.panic c) a w)
    (hd : l.all noDefer = true) (hL : ¬ LetsOut Q)
    (h : wpSeq P l.toArray Q plan l a w.drew) : (Code.region id l.toArray true).wpIn (Fence.wide.inRound lp) n P Q a w := by
  rw [Bool.and_eq_true, decide_eq_true_iff] at hB
  refine wpIn_region_round hm hd hL ?_
  refine wpAny_of_held (S := Below w.heap.size w.drew) _ _ _ _ ?_
  have hl : (List.range l.length).map (fun k => l.toArray[k]?) = l.map some := by
    refine List.ext_getElem (by simp) (fun i h1 h2 => ?_)
    simp only [List.length_map, List.length_range] at h1
    simp [h1]
  have := held_of_seq (P := P) hs hQ plan (List.range l.length) l (Array.replicate l.length false) a w.drew l.toArray.size hl (by simpa using hB.1) hB.2 h
  simpa using this

theorem bl_size : ∀ (l : List Obj) (w : World), (l.foldl World.alloc w).heap.size = w.heap.size + l.length
  | [], _ => rfl
  | o :: r, w => by rw [List.foldl_cons, bl_size r, World.size_alloc, List.length_cons]; omega
theorem bl_below : ∀ (l : List Obj) (w : World) {n : Nat} (_ : n ≤ w.heap.size), Below n w (l.foldl World.alloc w)
  | [], _, _, _ => Below.refl _ _
  | o :: r, w, n, h => by
    have h1 : Below n w (w.alloc o) := (Below.refl _ _).alloc h _
    exact h1.trans (bl_below r (w.alloc o) (by rw [World.size_alloc]; omega))
theorem bl_get : ∀ (l : List Obj) (w : World) (i : Nat) (o : Obj), l[i]? = some o → (l.foldl World.alloc w).heap[w.heap.size + i]? = some o
  | [], _, _, _, h => by simp at h
  | x :: r, w, 0, o, h => by
    have e : x = o := by simpa using h
    subst e
    have h1 := bl_below r (w.alloc x) (n := w.heap.size + 1) (by rw [World.size_alloc]; exact Nat.le_refl _)
    exact (h1.block w.heap.size (Nat.lt_succ_self _)).trans (World.alloc_heap_new w x)
  | x :: r, w, i + 1, o, h => by
    have h1 := bl_get r (w.alloc x) i o (by simpa using h)
    rw [World.size_alloc] at h1
    rw [show w.heap.size + (i + 1) = w.heap.size + 1 + i from by omega]
    exact h1
theorem bl_old (l : List Obj) (w : World) (k : Nat) (h : k < w.heap.size) : (l.foldl World.alloc w).heap[k]? = w.heap[k]? := (bl_below l w (n := w.heap.size) (Nat.le_refl _)).block k h

set_option maxHeartbeats 1000000 in
theorem both_any (pa : Option Addr) (na ca : Nat) (pb : Option Addr) (nb cb : Nat) (w : World) :
    Calls Try.prog 98 #[.slice pa na ca, .slice pb nb cb] w fun e w' => e = .returned (.func (.func 128) #[] #[.pointer (some ⟨w.heap.size, 0, none⟩), .pointer (some ⟨w.heap.size + 1, 0, none⟩)]) ∧ w' = (w.alloc (.cells #[.slice pa na ca] 24)).alloc (.cells #[.slice pb nb cb] 24) := by
  go_enter Try.func98, Try.ntmps98
  go_wp2
  go_ret
  exact ⟨rfl, rfl⟩
theorem both_seq (e0 : En) (hw0 : e0.wf) (hsz : enSz [e0] ≤ 10000) (Fr : Nat → Prop) (Ba Bb : Nat) (w : World) (ha : w.heap[Ba]? = some (.cells #[.slice e0.px (e0.xs.length + 1) e0.xc] 24)) (hb : w.heap[Bb]? = some (.cells #[.slice e0.py (e0.ys.length + 1) e0.yc] 24)) :
    SeqSt Try.prog 128 #[.pointer (some ⟨Ba, 0, none⟩), .pointer (some ⟨Bb, 0, none⟩)] enEnc (fun s => s = []) enAt enGo enRd [e0] Fr w := fun l J Jx W hW hJ hJx hR hY h0 =>
  callsIn_wide.1 (both_walk e0 hw0 hsz Fr Ba Bb l J Jx W hJ hJx hR hY h0 (cell_box ha (hW.block Ba (Array.getElem?_eq_some_iff.1 ha).1) rfl) (cell_box hb (hW.block Bb (Array.getElem?_eq_some_iff.1 hb).1) rfl))

set_option maxRecDepth 100000 in
set_option maxHeartbeats 1000000 in
theorem fit_any (x : T) (xa : Option Addr) (xc : Nat) (y : T) (ya : Option Addr) (yc : Nat) (w : World) (hx : Tp.size x ≤ 10000) (hy : Tp.size y ≤ 10000) (hxt : TyAt (LT w.heap.size) w x xa xc) (hyt : TyAt (LT w.heap.size) w y ya yc) :
    Calls Try.prog 99 #[tv x xa xc, tv y ya yc] w fun e w' => e = .returned (.bool (Tp.fit x y)) ∧ Below w.heap.size w w' := by
  obtain ⟨k0, hk0⟩ : ∃ k0, x.kind = k0 := ⟨_, rfl⟩
  obtain ⟨n0, hn0⟩ : ∃ n0, x.num = n0 := ⟨_, rfl⟩
  obtain ⟨m0, hm0⟩ : ∃ m0, x.kids.length = m0 := ⟨_, rfl⟩
  obtain ⟨k9, hk9⟩ : ∃ k0, y.kind = k0 := ⟨_, rfl⟩
  obtain ⟨n9, hn9⟩ : ∃ n0, y.num = n0 := ⟨_, rfl⟩
  obtain ⟨m9, hm9⟩ : ∃ m0, y.kids.length = m0 := ⟨_, rfl⟩
  have hcx := fun w1 (hb : Below w.heap.size w w1) => closed_any x xa xc w1 hx (hxt.below hb (fun _ h => h) (fun b h => Nat.lt_of_lt_of_le h hb.size))
  have hcy := fun w1 (hb : Below w.heap.size w w1) => closed_any y ya yc w1 hy (hyt.below hb (fun _ h => h) (fun b h => Nat.lt_of_lt_of_le h hb.size))
  obtain ⟨bx, hbx⟩ : ∃ b, Tp.without 6 x = b := ⟨_, rfl⟩
  obtain ⟨by_, hby⟩ : ∃ b, Tp.without 6 y = b := ⟨_, rfl⟩
  obtain ⟨res, hres⟩ : ∃ r, Tp.fit x y = r := ⟨_, rfl⟩
  have hres' : res = if k0 = 5 then by_ else if k9 = 5 then bx else decide (k0 = k9) && decide (n0 = n9) := by rw [← hres, Tp.fit, hbx, hby, hk0, hn0, hk9, hn9]
  unfold tv at hcx hcy ⊢
  rw [hk0, hn0, hm0, hbx] at hcx
  rw [hk9, hn9, hm9, hby] at hcy
  rw [hk0, hn0, hm0, hk9, hn9, hm9, hres]
  have HCX := Lib.hid hcx; have HCY := Lib.hid hcy; have HRES := Lib.hid hres'
  clear hcx hcy hres hres' hk0 hn0 hm0 hk9 hn9 hm9 hxt hyt hx hy hbx hby
  obtain ⟨W2, hW2⟩ : ∃ W2, [Obj.cells #[.int .i64 k0, .int .i64 n0, .slice xa m0 xc] 26, .cells #[.int .i64 k9, .int .i64 n9, .slice ya m9 yc] 26].foldl World.alloc w = W2 := ⟨_, rfl⟩
  have hb2 : Below w.heap.size w W2 := by rw [← hW2]; exact bl_below _ _ (Nat.le_refl _)
  have hx0 : W2.heap[w.heap.size]? = some (.cells #[.int .i64 k0, .int .i64 n0, .slice xa m0 xc] 26) := by rw [← hW2]; exact bl_get _ w 0 _ rfl
  have hx1 : W2.heap[w.heap.size + 1]? = some (.cells #[.int .i64 k9, .int .i64 n9, .slice ya m9 yc] 26) := by rw [← hW2]; exact bl_get _ w 1 _ rfl
  have c0 : W2.cell? ⟨w.heap.size, 0, none⟩ = some (.int .i64 k0) := cell_box hx0 rfl rfl
  have c1 : W2.cell? ⟨w.heap.size, 1, none⟩ = some (.int .i64 n0) := cell_box hx0 rfl rfl
  have c2 : W2.cell? ⟨w.heap.size, 2, none⟩ = some (.slice xa m0 xc) := cell_box hx0 rfl rfl
  have d0 : W2.cell? ⟨w.heap.size + 1, 0, none⟩ = some (.int .i64 k9) := cell_box hx1 rfl rfl
  have d1 : W2.cell? ⟨w.heap.size + 1, 1, none⟩ = some (.int .i64 n9) := cell_box hx1 rfl rfl
  have d2 : W2.cell? ⟨w.heap.size + 1, 2, none⟩ = some (.slice ya m9 yc) := cell_box hx1 rfl rfl
  have HB2 := Lib.hid hb2; have HW2 := Lib.hid (show (w.alloc (.cells #[.int .i64 k0, .int .i64 n0, .slice xa m0 xc] 26)).alloc (.cells #[.int .i64 k9, .int .i64 n9, .slice ya m9 yc] 26) = W2 from hW2)
  clear hb2 hW2 hx0 hx1
  go_enter Try.func99, Try.ntmps99
  go_upto_region 1 with fail
  rw [HW2.out]
  by_cases h5 : k0 = 5
  · have g5 : (k0 == 5) = true := by simp [h5]
    rw [if_pos h5] at HRES
    have H5 := Lib.hid h5; clear h5
    go_wp2_with (go_at_call 103; refine (HCY.out _ HB2.out).mono ?_; rintro e w1 ⟨rfl, hb1⟩; have HB1 := Lib.hid hb1; clear hb1)
    go_ret
    exact ⟨by rw [HRES.out]; rfl, HB2.out.trans (HB1.out.mono HB2.out.size)⟩
  · have g5 : (k0 == 5) = false := by simp [h5]
    rw [if_neg h5] at HRES
    have H5 := Lib.hid h5; clear h5
    by_cases h6 : k9 = 5
    · have g6 : (k9 == 5) = true := by simp [h6]
      rw [if_pos h6] at HRES
      have H6 := Lib.hid h6; clear h6
      go_wp2_with (go_at_call 103; refine (HCX.out _ HB2.out).mono ?_; rintro e w1 ⟨rfl, hb1⟩; have HB1 := Lib.hid hb1; clear hb1)
      go_ret
      exact ⟨by rw [HRES.out]; rfl, HB2.out.trans (HB1.out.mono HB2.out.size)⟩
    · have g6 : (k9 == 5) = false := by simp [h6]
      rw [if_neg h6] at HRES
      have H6 := Lib.hid h6; clear h6
      by_cases h7 : k0 = k9
      · subst h7
        by_cases h8 : n0 = n9
        · subst h8
          go_wp2_with fail
          go_ret
          exact ⟨by rw [HRES.out]; simp, HB2.out⟩
        · have g8 : (n0 == n9) = false := by simp [h8]
          go_wp2_with fail
          go_ret
          exact ⟨by rw [HRES.out]; simp [h8], HB2.out⟩
      · have g7 : (k0 == k9) = false := by simp [h7]
        go_wp2_with fail
        go_ret
        exact ⟨by rw [HRES.out]; simp [h7], HB2.out⟩
end Go.Proofs.Yteolbbgnkbcfmaa

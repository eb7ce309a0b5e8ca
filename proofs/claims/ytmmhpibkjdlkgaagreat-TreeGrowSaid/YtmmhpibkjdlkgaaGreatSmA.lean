/- Rows of types that a call hands back, as slices of types; the law's comparison of two such rows. Rows of types appended to rows of types; the page's Leaf. -/
import Derived.Test.YtmmhpibkjdlkgaaGreatTdS
import Derived.Test.YtmmhpibkjdlkgaaGreatTrC
import Derived.Test.YtmmhpibkjdlkgaaGreatSeqA
import Derived.OwnWalk
import Derived.Laws.OwnMore
import Derived.Maps.AppendAt
import Derived.Laws.Rows
import Derived.Laws.NewBlocks
namespace Go.Proofs.YtmmhpibkjdlkgaaGreat
open Go Go.RowKit
open Tp (T)

theorem tyCells_at : ∀ (S : List Ty3) (i : Nat) (h : i < S.length) (j : Nat), j < 3 → (tyCells S)[i * 3 + j]? = (Ty3.cells S[i])[j]?
  | [], i, h, _, _ => by simp at h
  | t :: r, 0, h, j, hj => by
    have e : tyCells (t :: r) = Ty3.cells t ++ tyCells r := by simp [tyCells]
    rw [e, Nat.zero_mul, Nat.zero_add, List.getElem?_append_left (by simp [Ty3.cells]; omega)]; rfl
  | t :: r, i + 1, h, j, hj => by
    have e : tyCells (t :: r) = Ty3.cells t ++ tyCells r := by simp [tyCells]
    have hl : (Ty3.cells t).length = 3 := rfl
    rw [e, List.getElem?_append_right (by rw [hl]; omega), hl, show (i + 1) * 3 + j - 3 = i * 3 + j from by omega]
    exact tyCells_at r i (by simpa using h) j hj
/-- A row of types of a call's own, as a slice of types. -/
theorem TyRow.slAt {w W : World} {L : List T} {v : Value} (h : TyRow w L W v) (hs : w.heap.size + 1 ≤ W.heap.size) : ∃ a c, v = .slice a L.length c ∧ SlAt (LT W.heap.size) W L a c := by
  obtain ⟨ls, rfl, he, ho⟩ := h
  obtain ⟨a, c, rfl⟩ := own_shapeT ho
  refine ⟨a, c, by rw [List.length_map], ?_⟩
  have ho2 := ho
  rw [List.length_map] at ho2
  rcases ho2.2 with ⟨h1, h2⟩ | ⟨g, cp, cur, h1, h2, h3, h4, h5, h6⟩
  · have hk : ls = [] := List.eq_nil_of_length_eq_zero h2
    injection h1 with q1 q2 q3
    subst q1 q3
    rw [hk]; exact ⟨by simp, by unfold maxLen; omega, by simp [KidsAt]⟩
  · injection h1 with q1 q2 q3
    subst q1
    subst q3
    have hlt : LT W.heap.size g := (Array.getElem?_eq_some_iff.1 h3).1
    refine ⟨by rw [List.length_map]; exact h4, h5, KidsAt.of_nodes hlt _ 0 (fun i hi => ?_)⟩
    have hi' : i < ls.length := by simpa using hi
    have hc := ho.cells (g := g) rfl
    have k : ∀ j, j < 3 → ∀ u, (Ty3.cells ls[i])[j]? = some u → W.cell? ⟨g, 0 + i * 3 + j, none⟩ = some u := fun j hj u hu => by
      have := hc (i * 3 + j) u (by rw [tyCells_at ls i hi' j hj]; exact hu)
      rw [add_flat] at this
      rw [show 0 + i * 3 + j = 0 + (i * 3 + j) from by omega]; exact this
    have ht := he ls[i] (List.getElem_mem hi')
    have e0 : (ls.map Ty3.t)[i] = ls[i].t := by simp
    rw [e0]
    have ht2 : TyAt (LT W.heap.size) W ls[i].t ls[i].a ls[i].cap := ht.below (Below.refl (w.heap.size + 1) _) (fun _ h => h) (fun b h => (Nat.lt_of_lt_of_le h hs : b < W.heap.size))
    exact NodeAt.mk' ht2 (k 0 (by omega) _ rfl) (k 1 (by omega) _ rfl) (k 2 (by omega) _ rfl)
mutual
theorem same_self : ∀ t : T, Tp.same t t = true
  | .mk k n l => by simp [Tp.same, sames_self l]
theorem sames_self : ∀ l : List T, Tp.sames l l = true
  | [] => by simp [Tp.sames]
  | t :: r => by simp [Tp.sames, same_self t, sames_self r]
end
set_option maxRecDepth 100000 in
set_option maxHeartbeats 4000000 in
theorem sameAll_any (L : List T) (a : Option Addr) (c : Nat) (a' : Option Addr) (c' : Nat) (w : World) (h1 : SlAt (LT w.heap.size) w L a c) (h2 : SlAt (LT w.heap.size) w L a' c') :
    Calls Tryz.prog 28 #[.slice a L.length c, .slice a' L.length c'] w fun e w' => e = .returned (.bool true) ∧ Below w.heap.size w w' := by
  obtain ⟨m, hm⟩ : ∃ m, L.length = m := ⟨_, rfl⟩
  have hm2 : (m : Int) ≤ 9223372036854775807 := by have q1 := h1.1; have q2 := h1.2.1; unfold maxLen at q2; omega
  rw [hm]
  have H1 := Lib.hid h1.2.2; have H2 := Lib.hid h2.2.2; have HM := Lib.hid hm
  clear h1 h2 hm
  go_enter Tryz.func28, Tryz.ntmps28
  go_wp2_with fail
  go_loopg [5] m (fun gk v5 wr => ∃ i : Nat, v5 = .int .i64 (i : Int) ∧ i ≤ m ∧ Below w.heap.size w wr ∧ gk = m - i)
  case atStart => exact ⟨0, rfl, Nat.zero_le _, Below.refl _ _, rfl⟩
  case round =>
    obtain ⟨i, rfl, hi, hb, rfl⟩ := hrel
    have HB := Lib.hid hb
    clear hb
    by_cases hlt : i < m
    · have hil : i < L.length := by rw [HM.out]; exact hlt
      have k1 := H1.out.below HB.out (fun _ h => h) (fun b h => (Nat.lt_of_lt_of_le h HB.out.size : b < wr.heap.size)) (G' := LT wr.heap.size)
      have k2 := H2.out.below HB.out (fun _ h => h) (fun b h => (Nat.lt_of_lt_of_le h HB.out.size : b < wr.heap.size)) (G' := LT wr.heap.size)
      obtain ⟨b, o, rfl, hbn, hN⟩ := k1.first (by omega)
      obtain ⟨b', o', rfl, hbn', hN'⟩ := k2.first (by omega)
      obtain ⟨xa, xc, q1, q2, q3, q4⟩ := (hN i hil).ty
      obtain ⟨ya, yc, r1, r2, r3, r4⟩ := (hN' i hil).ty
      have hcall := ksame_any _ L[i] L[i] xa xc ya yc wr.drew (Nat.le_refl _) (q1.below ((Below.refl wr.heap.size wr).drew) (fun _ h => h) (fun _ h => h)) (r1.below ((Below.refl wr.heap.size wr).drew) (fun _ h => h) (fun _ h => h))
      obtain ⟨wd, hwd⟩ : ∃ wd, wr.drew = wd := ⟨_, rfl⟩
      clear hwd
      rw [same_self] at hcall
      obtain ⟨q, hq⟩ : ∃ q, L[i] = q := ⟨_, rfl⟩
      rw [hq] at hcall q2 q3 q4 r2 r3 r4
      unfold tv at hcall
      have HC := Lib.hid hcall
      clear hcall hN hN' k1 k2 hq q1 r1
      go_upto_region 6 with fail
      refine wp_region_seq [(0, false), (0, false), (0, false), (0, false), (0, false), (0, false), (0, false), (0, false), (0, true), (0, false)] (by kernel_rfl) (by kernel_rfl) (by kernel_rfl) (fun _ _ _ d _ h => by cases d <;> exact h) ?_
      have d0 : wr.drew.cell? ⟨b, o + i * 3, none⟩ = _ := q2
      have d1 : wr.drew.cell? ⟨b, o + i * 3 + 1, none⟩ = _ := q3
      have d2 : wr.drew.cell? ⟨b, o + i * 3 + 2, none⟩ = _ := q4
      have d3 : wr.drew.cell? ⟨b', o' + i * 3, none⟩ = _ := r2
      have d4 : wr.drew.cell? ⟨b', o' + i * 3 + 1, none⟩ = _ := r3
      have d5 : wr.drew.cell? ⟨b', o' + i * 3 + 2, none⟩ = _ := r4
      repeat
        first
        | (first | with_reducible refine sp0 (fun K hK => ?_) | with_reducible refine sp1 (fun K hK => ?_) | with_reducible refine sp2 (fun K hK => ?_) | with_reducible refine sp3 (fun K hK => ?_) | with_reducible refine sp4 (fun K hK => ?_)
           go_simp
           first
           | (with_reducible refine hK _ _ ?_; clear hK K)
           | (with_reducible apply Exists.intro
              refine ⟨fun x hx => ?_, hK _ _ ?_⟩
              first
                | (with_reducible exact rfl)
                | (have y0 := keepc hx d0; have y1 := keepc hx d1; have y2 := keepc hx d2; have y3 := keepc hx d3; have y4 := keepc hx d4; have y5 := keepc hx d5; go_simp; done)
                | (have y0 := keepc hx d0; have y1 := keepc hx d1; have y2 := keepc hx d2; have y3 := keepc hx d3; have y4 := keepc hx d4; have y5 := keepc hx d5; go_simp; with_reducible exact rfl)
              clear hK K))
        | (first | with_reducible refine sk0 ?_ (fun K hK => ?_) | with_reducible refine sk1 ?_ (fun K hK => ?_) | with_reducible refine sk2 ?_ (fun K hK => ?_) | with_reducible refine sk3 ?_ (fun K hK => ?_) | with_reducible refine sk4 ?_ (fun K hK => ?_)
           rfl
           go_simp
           with_reducible refine hK _ _ ?_
           clear hK K)
      first | with_reducible refine sc0 (fun K hK => ?_) | with_reducible refine sc1 (fun K hK => ?_) | with_reducible refine sc2 (fun K hK => ?_) | with_reducible refine sc3 (fun K hK => ?_) | with_reducible refine sc4 (fun K hK => ?_)
      go_simp
      refine (HC.out).mono ?_
      rintro e w' ⟨rfl, hb'⟩
      refine ⟨hb', hK _ _ ?_⟩
      clear hK K
      have hb2 : Below wr.heap.size wr w' := ((Below.refl wr.heap.size wr).drew).trans hb'
      clear d0 d1 d2 d3 d4 d5 q2 q3 q4 r2 r3 r4
      repeat
        first
        | (first | with_reducible refine sp0 (fun K hK => ?_) | with_reducible refine sp1 (fun K hK => ?_) | with_reducible refine sp2 (fun K hK => ?_) | with_reducible refine sp3 (fun K hK => ?_) | with_reducible refine sp4 (fun K hK => ?_)
           go_simp
           first
           | (with_reducible refine hK _ _ ?_; clear hK K)
           | (with_reducible apply Exists.intro
              refine ⟨fun x hx => ?_, hK _ _ ?_⟩
              first
                | (with_reducible exact rfl)
              clear hK K))
        | (first | with_reducible refine sk0 ?_ (fun K hK => ?_) | with_reducible refine sk1 ?_ (fun K hK => ?_) | with_reducible refine sk2 ?_ (fun K hK => ?_) | with_reducible refine sk3 ?_ (fun K hK => ?_) | with_reducible refine sk4 ?_ (fun K hK => ?_)
           rfl
           go_simp
           with_reducible refine hK _ _ ?_
           clear hK K)
      with_reducible refine seq_nil ?_
      go_wp2_with fail
      go_roundg (m - (i + 1))
      case measure => omega
      case rel => exact ⟨i + 1, by first | rfl | go_num, by omega, HB.out.trans (hb2.mono HB.out.size), rfl⟩
    · obtain rfl : i = m := by omega
      go_wp2_with fail
      go_ret
      exact ⟨rfl, HB.out⟩
end Go.Proofs.YtmmhpibkjdlkgaaGreat
namespace Go.Proofs.YtmmhpibkjdlkgaaGreat
open Go Go.RowKit
open Tp (T)

theorem tyCells_one (l : List Ty3) : ∀ u ∈ tyCells l, u.oneCell' = true := by
  intro u hu
  obtain ⟨x, _, hx⟩ := List.mem_flatMap.1 hu
  simp only [Ty3.cells, List.mem_cons, List.not_mem_nil, or_false] at hx
  rcases hx with rfl | rfl | rfl <;> rfl
theorem tyCells_len : ∀ l : List Ty3, (tyCells l).length = l.length * 3
  | [] => rfl
  | x :: r => by
    have := tyCells_len r
    simp only [tyCells, List.flatMap_cons, List.length_append, List.length_cons, Ty3.cells, List.length_nil] at this ⊢
    omega
theorem tyCells_app (l k : List Ty3) : tyCells (l ++ k) = tyCells l ++ tyCells k := by simp [tyCells]
/-- A row of types of a call's own, and another's types behind it. -/
theorem app_types {w : World} {B B' n m : Nat} {v y : Value} {l k : List Ty3} (hv : w.ownsRow B 26 3 v n (tyCells l)) (hy : w.ownsRow B' 26 3 y m (tyCells k)) (hn : n + m ≤ 100000) (hB : B ≤ w.heap.size) :
    ∃ v' w', (Builtin.append_ #[24, 24] 24 #[v, y]).run Tryz.prog w = .ok v' w' ∧ w'.ownsRow B 26 3 v' (n + m) (tyCells (l ++ k)) ∧ w.grownBy w' v.ownBlock ∧ Below B w w' ∧ (v'.ownBlock = v.ownBlock ∨ v'.ownBlock = some w.heap.size) := by
  obtain ⟨i0, hi, hz0, hz1, hz2⟩ := info_parts info_tyA
  rcases hy.2 with ⟨rfl, rfl⟩ | ⟨g, cp, cur, rfl, h2, h3, h4, h5, h6⟩
  · have hk : k = [] := by
      have h := hy.1
      rw [tyCells_len] at h
      exact List.eq_nil_of_length_eq_zero (by omega)
    subst hk
    refine ⟨v, w, run_append_owned_none (P := Tryz.prog) w B 24 24 26 i0 3 Tryz.underlying24 hi v n _ hv, ?_, ⟨rfl, rfl, rfl, Nat.le_refl _, fun _ _ _ => rfl⟩, Below.refl _ _, .inl rfl⟩
    rw [List.append_nil, Nat.add_zero]; exact hv
  · have hc := hy.cells (g := g) rfl
    obtain ⟨v', w', hr, ho, hg, _, hat⟩ := run_append_own_at (P := Tryz.prog) w B 24 24 26 i0 (.agg #[.int .i64 0, .int .i64 0, .slice none 0 0]) 3 40 Tryz.underlying24 hi hz0 hz1 hz2 rfl (by decide) v n (tyCells l) hv ⟨g, 0, none⟩ m cp (tyCells k) hy.1
      (fun j u hu => hc j u hu) (tyCells_one k) (by unfold maxLen; omega) (by omega) hB
    refine ⟨v', w', hr, by rw [tyCells_app]; exact ho, hg, (Below.refl B w).grown hg hB (fun k hk => (hv.lt k hk).1), hat⟩
mutual
theorem NodeAt.real {G : Nat → Prop} {W : World} : ∀ (t : T) (b o : Nat), NodeAt G W t b o → NodeAt (fun y => G y ∧ y < W.heap.size) W t b o
  | .mk k n l, b, o, h => by
    simp only [NodeAt] at h ⊢
    obtain ⟨h1, h2, h3, h4, a, cap, h5, h6, h7, h8⟩ := h
    exact ⟨h1, h2, h3, h4, a, cap, h5, h6, h7, KidsAt.real l a h8⟩
theorem KidsAt.real {G : Nat → Prop} {W : World} : ∀ (l : List T) (a : Option Addr), KidsAt G W l a → KidsAt (fun y => G y ∧ y < W.heap.size) W l a
  | [], _, _ => by simp [KidsAt]
  | t :: r, a, h => by
    simp only [KidsAt] at h ⊢
    obtain ⟨b, o, e, hb, hn, hr⟩ := h
    obtain ⟨_, _, _, q, _⟩ := hn.ty
    exact ⟨b, o, e, ⟨hb, cell_lt q⟩, NodeAt.real t b o hn, KidsAt.real r _ hr⟩
end
theorem TyAt.real {G : Nat → Prop} {W : World} {t : T} {a : Option Addr} {c : Nat} (h : TyAt G W t a c) : TyAt (fun y => G y ∧ y < W.heap.size) W t a c := ⟨h.1, h.2.1, h.2.2.1, h.2.2.2.1, KidsAt.real _ _ h.2.2.2.2⟩
/-- A type stays where an append turns another block. -/
theorem TyAt.grown {G G' : Nat → Prop} {W W' : World} {t : T} {a : Option Addr} {c : Nat} {row : Option Nat} (h : TyAt G W t a c) (hg : W.grownBy W' row) (hr : ∀ y, G y → y < W.heap.size → some y ≠ row) (hG : ∀ y, G y → y < W.heap.size → G' y) : TyAt G' W' t a c :=
  ⟨h.1, h.2.1, h.2.2.1, h.2.2.2.1, KidsAt.mono (fun b o hb => World.cell?_of_block (a := ⟨b, o, none⟩) (hg.block b hb.2 (hr b hb.1 hb.2))) (fun b hb => hG b hb.1 hb.2) _ _ (KidsAt.real _ _ h.2.2.2.2)⟩
/-- A row of types of the call's own, as a slice of types. -/
theorem row3_slAt {B n : Nat} {W : World} {v : Value} {ls : List Ty3} (ho : W.ownsRow B 26 3 v n (tyCells ls)) (hn : n = ls.length) (he : ∀ x ∈ ls, TyAt (LT W.heap.size) W x.t x.a x.cap) :
    ∃ a c, v = .slice a n c ∧ SlAt (LT W.heap.size) W (ls.map Ty3.t) a c := by
  subst hn
  obtain ⟨a, c, rfl⟩ := own_shapeT ho
  refine ⟨a, c, rfl, ?_⟩
  rcases ho.2 with ⟨h1, h2⟩ | ⟨g, cp, cur, h1, h2, h3, h4, h5, h6⟩
  · have hk : ls = [] := List.eq_nil_of_length_eq_zero h2
    injection h1 with q1 q2 q3
    subst q1 q3
    rw [hk]; exact ⟨by simp, by unfold maxLen; omega, by simp [KidsAt]⟩
  · injection h1 with q1 q2 q3
    subst q1
    subst q3
    have hlt : LT W.heap.size g := (Array.getElem?_eq_some_iff.1 h3).1
    refine ⟨by rw [List.length_map]; exact h4, h5, KidsAt.of_nodes hlt _ 0 (fun i hi => ?_)⟩
    have hi' : i < ls.length := by simpa using hi
    have hc := ho.cells (g := g) rfl
    have k : ∀ j, j < 3 → ∀ u, (Ty3.cells ls[i])[j]? = some u → W.cell? ⟨g, 0 + i * 3 + j, none⟩ = some u := fun j hj u hu => by
      have := hc (i * 3 + j) u (by rw [tyCells_at ls i hi' j hj]; exact hu)
      rw [add_flat] at this
      rw [show 0 + i * 3 + j = 0 + (i * 3 + j) from by omega]; exact this
    have ht := he ls[i] (List.getElem_mem hi')
    have e0 : (ls.map Ty3.t)[i] = ls[i].t := by simp
    rw [e0]
    exact NodeAt.mk' ht (k 0 (by omega) _ rfl) (k 1 (by omega) _ rfl) (k 2 (by omega) _ rfl)
/-- An empty row of types, just made. -/
theorem empty_row {W : World} {B : Nat} (hB : B ≤ W.heap.size) : (W.alloc (.cells #[] 26)).ownsRow B 26 3 (.slice (some ⟨W.heap.size, 0, none⟩) 0 0) 0 (tyCells []) :=
  ⟨rfl, .inr ⟨W.heap.size, 0, #[], rfl, hB, World.alloc_heap_new W _, Nat.le_refl _, by unfold maxLen; omega, rfl, rfl⟩⟩
set_option maxRecDepth 100000 in
theorem leaf_one (w : World) : Calls Tryz.prog 42 #[.int .i64 1] w fun e w' => e = .returned (.agg #[.int .i64 1, .int .i64 0, .slice none 0 0]) ∧ Below w.heap.size w w' := by
  have hx := World.alloc_heap_new w (.cells #[.int .i64 1, .int .i64 0, .slice none 0 0] 26)
  have hb : Below w.heap.size w (w.alloc (.cells #[.int .i64 1, .int .i64 0, .slice none 0 0] 26)) := (Below.refl _ _).alloc (Nat.le_refl _) _
  go_enter Tryz.func42, Tryz.ntmps42
  go_wp2_with fail
  exact bodyPost_ret_by (v := .agg #[.int .i64 1, .int .i64 0, .slice none 0 0]) (results_cell_row (p := 2) (ty := 26) (by kernel_rfl) _ _ w.heap.size 26 _ (0, 0) _ rfl hx Tryz.underlying26 rfl (by kernel_rfl)) rfl ⟨rfl, hb⟩
end Go.Proofs.YtmmhpibkjdlkgaaGreat

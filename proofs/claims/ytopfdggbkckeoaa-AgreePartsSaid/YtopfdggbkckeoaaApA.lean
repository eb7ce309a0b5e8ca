/- The law AgreeParts: its walk. -/
import Derived.Test.YtopfdggbkckeoaaAbA
import Derived.Deep.RegionLaw
import Derived.Deep.DeepCutAuto
import Derived.Deep.CutRange
namespace Go.Proofs.Ytopfdggbkckeoaa
open Go Go.RowKit
open Tp (T)

theorem row_at4 {H : Nat → Prop} {F : World} {g : Nat} {t u p q : T} {k n k' n' k2 n2 k3 n3 : Int} {m m' m2 m3 : Nat} {a a' a2 a3 : Option Addr} {c c' c2 c3 : Nat} (hv : TV t k n m) (hv' : TV u k' n' m') (hv2 : TV p k2 n2 m2) (hv3 : TV q k3 n3 m3)
    (hg : F.heap[g]? = some (.cells #[.int .i64 k, .int .i64 n, .slice a m c, .int .i64 k', .int .i64 n', .slice a' m' c', .int .i64 k2, .int .i64 n2, .slice a2 m2 c2, .int .i64 k3, .int .i64 n3, .slice a3 m3 c3] 24))
    (hgH : H g) (ht : TyAt H F t a c) (hu : TyAt H F u a' c') (hp : TyAt H F p a2 c2) (hq : TyAt H F q a3 c3) : KidsAt H F [t, u, p, q] (some ⟨g, 0, none⟩) := by
  obtain ⟨rfl, rfl, rfl⟩ := hv
  obtain ⟨rfl, rfl, rfl⟩ := hv'
  obtain ⟨rfl, rfl, rfl⟩ := hv2
  obtain ⟨rfl, rfl, rfl⟩ := hv3
  refine KidsAt.of_nodes hgH [t, u, p, q] 0 (fun i hi => ?_)
  have hi2 : i = 0 ∨ i = 1 ∨ i = 2 ∨ i = 3 := by simp at hi; omega
  rcases hi2 with rfl | rfl | rfl | rfl
  · exact NodeAt.mk' ht (cell_box hg rfl rfl) (cell_box hg rfl rfl) (cell_box hg rfl rfl)
  · exact NodeAt.mk' hu (cell_box hg rfl rfl) (cell_box hg rfl rfl) (cell_box hg rfl rfl)
  · exact NodeAt.mk' hp (cell_box hg rfl rfl) (cell_box hg rfl rfl) (cell_box hg rfl rfl)
  · exact NodeAt.mk' hq (cell_box hg rfl rfl) (cell_box hg rfl rfl) (cell_box hg rfl rfl)
theorem four_right {t u p q : T} (h : (!decide (600 < Tp.sizes [t, u, p, q]) && Tp.rights [t, u, p, q]) = true) : Tp.right t = true ∧ Tp.right u = true ∧ Tp.right p = true ∧ Tp.right q = true ∧ Tp.size t + Tp.size u + Tp.size p + Tp.size q ≤ 600 := by
  by_cases hc : 600 < Tp.sizes [t, u, p, q]
  · rw [decide_eq_true hc] at h; simp at h
  · rw [decide_eq_false hc] at h
    simp only [Bool.not_false, Bool.true_and, Tp.rights, Bool.and_eq_true] at h
    simp only [Tp.sizes] at hc
    exact ⟨h.1, h.2.1, h.2.2.1, h.2.2.2.1, by omega⟩
theorem two_ok {k : Int} (hk : k = 7 ∨ k = 9) {t u p q : T} (ht : Tp.right t = true) (hu : Tp.right u = true) (hp : Tp.right p = true) (hq : Tp.right q = true) : Tp.ok (.mk k 0 [t, u]) (.mk k 0 [p, q]) = (Tp.ok t p && Tp.ok u q) ∧
    ((Tp.ok t p && Tp.ok u q) = true → Mt (.mk k 0 [t, u]) (.mk k 0 [p, q]) = .mk k 0 [Mt t p, Mt u q]) := by
  have h5 : ¬ k = 5 := by omega
  have h1 : Tp.ok (.mk k 0 [t, u]) (.mk k 0 [p, q]) = (Tp.ok t p && Tp.ok u q) := by
    unfold Tp.ok
    rw [two_right k hk, two_right k hk, ht, hu, hp, hq, Tp.agree_alike h5]
    simp [Tp.agrees]
  refine ⟨h1, fun h => ?_⟩
  have h2 : Tp.ok t p = true ∧ Tp.ok u q = true := by simpa using h
  unfold Mt
  rw [if_pos (h1.trans h), if_pos h2.1, if_pos h2.2, Tp.meet_alike h5]
  simp [Tp.meets]
theorem list_ok {t p : T} (ht : Tp.right t = true) (hp : Tp.right p = true) : Tp.ok (.mk 8 0 [t]) (.mk 8 0 [p]) = Tp.ok t p ∧ (Tp.ok t p = true → Mt (.mk 8 0 [t]) (.mk 8 0 [p]) = .mk 8 0 [Mt t p]) := by
  have h5 : ¬ (8 : Int) = 5 := by decide
  have h1 : Tp.ok (.mk 8 0 [t]) (.mk 8 0 [p]) = Tp.ok t p := by
    unfold Tp.ok
    rw [list_right, list_right, ht, hp, Tp.agree_alike h5]
    simp [Tp.agrees]
  refine ⟨h1, fun h => ?_⟩
  unfold Mt
  rw [if_pos (h1.trans h), if_pos h, Tp.meet_alike h5]
  simp [Tp.meets]
theorem unlike_ok {k k' : Int} {l l' : List T} (h : k ≠ k') (h5 : k ≠ 5) (h5' : k' ≠ 5) : Tp.ok (.mk k 0 l) (.mk k' 0 l') = false := by
  unfold Tp.ok
  have : Tp.agree (.mk k 0 l) (.mk k' 0 l') = false := by simp [Tp.agree, h, h5, h5']
  rw [this, Bool.and_false]
theorem ok_size {t p : T} (h : Tp.size t + Tp.size p ≤ 600) : Tp.size (Mt t p) ≤ 10000 := by
  unfold Mt
  split
  · rename_i ho
    obtain ⟨h1, h2, h3⟩ := ok_parts ho
    have := (Tp.meet_size t p h1 h2 h3).2.2
    omega
  · simp [Tp.size, Tp.sizes]
/-- What a call has built, by letters. -/
theorem two_ty (kk : Int) (hkk : I64 kk) {t u : T} {k n k' n' : Int} {m m' : Nat} {a a' : Option Addr} {c c' : Nat} {w : World} (hv : TV t k n m) (hv' : TV u k' n' m') (ht : TyAt (LT w.heap.size) w t a c) (hu : TyAt (LT w.heap.size) w u a' c') :
    Calls Try.prog 19 #[.int .i64 kk, .agg #[.int .i64 k, .int .i64 n, .slice a m c], .agg #[.int .i64 k', .int .i64 n', .slice a' m' c']] w fun e w' => ∃ g, e = .returned (.agg #[.int .i64 kk, .int .i64 0, .slice (some ⟨g, 0, none⟩) 2 2]) ∧ TyAt (LT w'.heap.size) w' (.mk kk 0 [t, u]) (some ⟨g, 0, none⟩) 2 ∧ Below w.heap.size w w' :=
  two_any kk hkk t k n m a c u k' n' m' a' c' w hv hv' ht hu
theorem list_ty {t : T} {k n : Int} {m : Nat} {a : Option Addr} {c : Nat} {w : World} (hv : TV t k n m) (ht : TyAt (LT w.heap.size) w t a c) :
    Calls Try.prog 20 #[.agg #[.int .i64 k, .int .i64 n, .slice a m c]] w fun e w' => ∃ g, e = .returned (.agg #[.int .i64 8, .int .i64 0, .slice (some ⟨g, 0, none⟩) 1 1]) ∧ TyAt (LT w'.heap.size) w' (.mk 8 0 [t]) (some ⟨g, 0, none⟩) 1 ∧ Below w.heap.size w w' :=
  list_any t k n m a c w hv ht
theorem two_sz {k : Int} {t u : T} (h : Tp.size t + Tp.size u ≤ 600) : Tp.size (.mk k 0 [t, u]) ≤ 10000 := by simp only [Tp.size, Tp.sizes]; omega
theorem list_sz {t : T} (h : Tp.size t ≤ 600) : Tp.size (.mk 8 0 [t]) ≤ 10000 := by simp only [Tp.size, Tp.sizes]; omega

/-- A block of zeros holds no node of right types. -/
theorem KidsAt.miss {G : Nat → Prop} {y : World} {bb : Nat} {ty : TypeId} (hbox : y.heap[bb]? = some (.cells #[.int .i64 0, .int .i64 0, .slice none 0 0] ty (0, 0))) : ∀ (l : List T) (a : Option Addr), Tp.rights l = true → KidsAt G y l a → KidsAt (fun b => G b ∧ b ≠ bb) y l a := by
  have hn : ∀ (sz : Nat), (∀ (t : T) (b o : Nat), Tp.size t ≤ sz → Tp.right t = true → NodeAt G y t b o → b ≠ bb ∧ NodeAt (fun b => G b ∧ b ≠ bb) y t b o) ∧ (∀ (l : List T) (a : Option Addr), Tp.sizes l ≤ sz → Tp.rights l = true → KidsAt G y l a → KidsAt (fun b => G b ∧ b ≠ bb) y l a) := by
    intro sz
    induction sz with
    | zero =>
      refine ⟨fun t b o h => by have := Tp.size_pos t; omega, fun l a h _ hk => ?_⟩
      cases l with
      | nil => simp [KidsAt]
      | cons t r => have := Tp.size_pos t; simp only [Tp.sizes] at h; omega
    | succ sz ih =>
      have node : ∀ (t : T) (b o : Nat), Tp.size t ≤ sz + 1 → Tp.right t = true → NodeAt G y t b o → b ≠ bb ∧ NodeAt (fun b => G b ∧ b ≠ bb) y t b o := fun t b o h hr hx => by
        obtain ⟨a, cap, q1, q2, q3, q4⟩ := hx.ty
        have hs := kids_sizes t
        refine ⟨fun e => ?_, NodeAt.mk' ⟨q1.1, q1.2.1, q1.2.2.1, q1.2.2.2.1, ih.2 _ _ (by omega) (kids_right hr) q1.2.2.2.2⟩ q2 q3 q4⟩
        rw [e] at q2 q4
        have ho : o = 0 := by
          rcases Nat.eq_zero_or_pos o with h | h
          · exact h
          · exfalso
            have h0 : (#[Value.int .i64 0, .int .i64 0, .slice none 0 0] : Array Value)[o + 2]? = none := Array.getElem?_eq_none (by simp; omega)
            simp [World.cell?, hbox, h0] at q4
        rw [ho] at q2
        have hk : (0 : Int) = t.kind := by simpa [World.cell?, hbox] using q2
        cases t with
        | mk k n l =>
          have h1 := (Tp.right_node hr).1
          have hk' : k = 0 := hk.symm
          rw [hk'] at h1
          simp [Tp.arity] at h1
      have kids : ∀ (l : List T) (a : Option Addr), Tp.sizes l ≤ sz + 1 → Tp.rights l = true → KidsAt G y l a → KidsAt (fun b => G b ∧ b ≠ bb) y l a := fun l => by
        induction l with
        | nil => intro a _ _ _; simp [KidsAt]
        | cons t r ihl =>
          intro a h hr hk
          obtain ⟨b, o, rfl, h2, h3, h4⟩ := hk.head
          simp only [Tp.sizes] at h
          have hd := node t b o (by omega) (Tp.rights_cons hr).1 h3
          simp only [KidsAt]
          exact ⟨b, o, rfl, ⟨h2, hd.1⟩, hd.2, ihl _ (by omega) (Tp.rights_cons hr).2 h4⟩
      exact ⟨node, kids⟩
  exact fun l a hr h => (hn (Tp.sizes l)).2 l a (Nat.le_refl _) hr h
theorem Mt_kids (t u : T) : Tp.rights (Mt t u).kids = true := by
  unfold Mt
  split
  · rename_i h
    obtain ⟨h1, h2, h3⟩ := ok_parts h
    exact kids_right (Tp.meet_right t u h1 h2 h3)
  · rfl
/-- A box of zeros is written. -/
theorem put_box {B : Nat} {W y F : World} {bb : Nat} {m : T} {k n : Int} {l : Nat} {a : Option Addr} {c : Nat} (hv : TV m k n l) (hr : Tp.rights m.kids = true) (hbox : y.heap[bb]? = some (.cells #[.int .i64 0, .int .i64 0, .slice none 0 0] 24 (0, 0))) (hty : TyAt (LT y.heap.size) y m a c)
    (hB : Below B W y) (hbb : B ≤ bb) (hF : ((y.setCell ⟨bb, 0, none⟩ (.int .i64 k)).setCell ⟨bb, 1, none⟩ (.int .i64 n)).setCell ⟨bb, 2, none⟩ (.slice a l c) = F) : BoxT F bb m k n l a c ∧ Below B W F := by
  have hT := set3_turns y bb (.int .i64 k) (.int .i64 n) (.slice a l c)
  have hO := fun j (hj : j ≠ bb) => set3_other (V := y) (v0 := .int .i64 k) (v1 := .int .i64 n) (v2 := .slice a l c) hj
  have hb := box_set3 (v0 := .int .i64 k) (v1 := .int .i64 n) (v2 := .slice a l c) hbox
  rw [hF] at hT hO hb
  obtain ⟨q1, q2, q3, q4, q5⟩ := hty
  refine ⟨⟨hv, hb, q1, q2, q3, q4, KidsAt.mono (fun b o h => World.cell?_of_block (a := ⟨b, o, none⟩) (hO b h.2)) (fun b h => Nat.lt_of_lt_of_le h.1 hT.size) _ _ (KidsAt.miss hbox _ _ hr q5)⟩, ?_⟩
  exact (hT.mono (M' := fun j => B ≤ j) (fun j _ hj => by rw [show j = bb from hj]; exact hbb)).below hB (fun _ h => h) (Nat.le_of_lt (Nat.lt_of_le_of_lt hbb (Array.getElem?_eq_some_iff.1 hbox).1))
theorem zero_facts {y : World} {bb : Nat} {ty : TypeId} (h : y.heap[bb]? = some (.cells #[.int .i64 0, .int .i64 0, .slice none 0 0] ty (0, 0))) : y.cell? ⟨bb, 0, none⟩ = some (.int .i64 0) ∧ y.cell? ⟨bb, 1, none⟩ = some (.int .i64 0) ∧ y.cell? ⟨bb, 2, none⟩ = some (.slice none 0 0) ∧ y.frozen? ⟨bb, 0, none⟩ = false ∧ y.frozen? ⟨bb, 1, none⟩ = false ∧ y.frozen? ⟨bb, 2, none⟩ = false :=
  ⟨cell_box h rfl rfl, cell_box h rfl rfl, cell_box h rfl rfl, IsC.frozen ⟨_, _, h⟩, IsC.frozen ⟨_, _, h⟩, IsC.frozen ⟨_, _, h⟩⟩

set_option maxRecDepth 100000 in
set_option maxHeartbeats 8000000 in
theorem lparts_any (t : T) (a : Option Addr) (cap : Nat) (u : T) (b : Option Addr) (cap' : Nat) (p : T) (a5 : Option Addr) (cap5 : Nat) (q : T) (a6 : Option Addr) (cap6 : Nat) (w : World) (hty : TyAt (LT w.heap.size) w t a cap) (hty' : TyAt (LT w.heap.size) w u b cap') (hty5 : TyAt (LT w.heap.size) w p a5 cap5) (hty6 : TyAt (LT w.heap.size) w q a6 cap6) :
    Calls Try.prog 5 #[tv t a cap, tv u b cap', tv p a5 cap5, tv q a6 cap6] w fun e w' => e = .returned (.bool true) ∧ Below w.heap.size w w' := by
  obtain ⟨k0, n0, m0, hv⟩ := TV.mk t
  obtain ⟨k9, n9, m9, hv'⟩ := TV.mk u
  obtain ⟨k5, n5, m5, hv5⟩ := TV.mk p
  obtain ⟨k6, n6, m6, hv6⟩ := TV.mk q
  rw [tv_of hv, tv_of hv', tv_of hv5, tv_of hv6]
  obtain ⟨W2, hW2⟩ : ∃ W2, [Obj.cells #[.int .i64 k0, .int .i64 n0, .slice a m0 cap] 24, .cells #[.int .i64 k9, .int .i64 n9, .slice b m9 cap'] 24, .cells #[.int .i64 k5, .int .i64 n5, .slice a5 m5 cap5] 24, .cells #[.int .i64 k6, .int .i64 n6, .slice a6 m6 cap6] 24].foldl World.alloc w = W2 := ⟨_, rfl⟩
  have hb2 : Below w.heap.size w W2 := by rw [← hW2]; exact al_below _ _ (Nat.le_refl _)
  have bx : BoxT W2 w.heap.size t k0 n0 m0 a cap := ⟨hv, by rw [← hW2]; exact al_get _ w 0 _ rfl, ty_later hty hb2⟩
  have bu : BoxT W2 (w.heap.size + 1) u k9 n9 m9 b cap' := ⟨hv', by rw [← hW2]; exact al_get _ w 1 _ rfl, ty_later hty' hb2⟩
  have bp : BoxT W2 (w.heap.size + 1 + 1) p k5 n5 m5 a5 cap5 := ⟨hv5, by rw [← hW2]; exact al_get _ w 2 _ rfl, ty_later hty5 hb2⟩
  have bq : BoxT W2 (w.heap.size + 1 + 1 + 1) q k6 n6 m6 a6 cap6 := ⟨hv6, by rw [← hW2]; exact al_get _ w 3 _ rfl, ty_later hty6 hb2⟩
  obtain ⟨rr, hrr⟩ : ∃ r, (!decide (600 < Tp.sizes [t, u, p, q]) && Tp.rights [t, u, p, q]) = r := ⟨_, rfl⟩
  have hbr : Below W2.heap.size W2 (W2.alloc (.cells #[.int .i64 k0, .int .i64 n0, .slice a m0 cap, .int .i64 k9, .int .i64 n9, .slice b m9 cap', .int .i64 k5, .int .i64 n5, .slice a5 m5 cap5, .int .i64 k6, .int .i64 n6, .slice a6 m6 cap6] 24)) := (Below.refl _ _).alloc (Nat.le_refl _) _
  have hri := lright_any [t, u, p, q] (some ⟨W2.heap.size, 0, none⟩) 4 _ (by simp) (row_at4 hv hv' hv5 hv6 (World.alloc_heap_new W2 _) (by show W2.heap.size < _; simp) (ty_later bx.ty hbr) (ty_later bu.ty hbr) (ty_later bp.ty hbr) (ty_later bq.ty hbr))
  rw [hrr] at hri
  have HRI := Lib.hid hri; have HRR := Lib.hid hrr; have HB2 := Lib.hid hb2; have BX := Lib.hid bx; have BU := Lib.hid bu; have BP := Lib.hid bp; have BQ := Lib.hid bq
  have HW2 := Lib.hid (show (((w.alloc (.cells #[.int .i64 k0, .int .i64 n0, .slice a m0 cap] 24)).alloc (.cells #[.int .i64 k9, .int .i64 n9, .slice b m9 cap'] 24)).alloc (.cells #[.int .i64 k5, .int .i64 n5, .slice a5 m5 cap5] 24)).alloc (.cells #[.int .i64 k6, .int .i64 n6, .slice a6 m6 cap6] 24) = W2 from hW2)
  have HBR := Lib.hid hbr
  clear hri hrr hb2 hW2 hty hty' hty5 hty6 hv hv' hv5 hv6 hbr
  go_enter Try.func5, Try.ntmps5
  go_upto_region 1 with fail
  rw [HW2.out]
  obtain ⟨c0, c1, c2⟩ := bx.cells
  obtain ⟨d0, d1, d2⟩ := bu.cells
  obtain ⟨e0, e1, e2⟩ := bp.cells
  obtain ⟨g0, g1, g2⟩ := bq.cells
  clear bx bu bp bq
  go_wp2_with fail
  refine HRI.out.mono ?_
  clear c0 c1 c2 d0 d1 d2 e0 e1 e2 g0 g1 g2
  rintro e w3 ⟨rfl, hb3⟩
  have hb23 : Below W2.heap.size W2 w3 := HBR.out.tr hb3 (Nat.le_refl _)
  have BX3 := Lib.hid (BX.out.later hb23); have BU3 := Lib.hid (BU.out.later hb23); have BP3 := Lib.hid (BP.out.later hb23); have BQ3 := Lib.hid (BQ.out.later hb23); have HB3 := Lib.hid (HB2.out.tr hb23 (Nat.le_refl _))
  clear hb3 hb23
  cases rr with
  | false =>
    go_wp2_with fail
    go_ret
    exact ⟨rfl, HB3.out⟩
  | true =>
    obtain ⟨hrt, hru, hrp, hrq, hsz⟩ := four_right HRR.out
    have HST := Lib.hid (show Tp.size t ≤ 10000 by omega); have HSU := Lib.hid (show Tp.size u ≤ 10000 by omega); have HSP := Lib.hid (show Tp.size p ≤ 10000 by omega); have HSQ := Lib.hid (show Tp.size q ≤ 10000 by omega)
    have HSZ := Lib.hid hsz
    have HRT := Lib.hid hrt; have HRU := Lib.hid hru; have HRP := Lib.hid hrp; have HRQ := Lib.hid hrq
    obtain ⟨o1, ho1⟩ : ∃ o, Tp.ok t p = o := ⟨_, rfl⟩
    obtain ⟨o2, ho2⟩ : ∃ o, Tp.ok u q = o := ⟨_, rfl⟩
    obtain ⟨o, ho⟩ : ∃ o, (o1 && o2) = o := ⟨_, rfl⟩
    have HO1 := Lib.hid ho1; have HO2 := Lib.hid ho2; have HO := Lib.hid ho
    have h7 := @two_ok 7 (.inl rfl) t u p q hrt hru hrp hrq
    have h9 := @two_ok 9 (.inr rfl) t u p q hrt hru hrp hrq
    have h8 := @list_ok t p hrt hrp
    rw [ho1, ho2, ho] at h7 h9
    rw [ho1] at h8
    have H7 := Lib.hid h7; have H9 := Lib.hid h9; have H8 := Lib.hid h8
    clear hrt hru hrp hrq hsz ho1 ho2 ho h7 h9 h8
    go_upto_region 3 with fail
    go_cut [9] from 20 (fun v wx => v = .bool o ∧ Below w3.heap.size w3 wx)
    case first =>
      obtain ⟨c0, c1, c2⟩ := BX3.out.cells
      obtain ⟨e0, e1, e2⟩ := BP3.out.cells
      go_wp2_with fail
      refine (ag_any BX3.out.says BP3.out.says BX3.out.ty BP3.out.ty HST.out HSP.out).mono ?_
      rw [HO1.out]
      clear c0 c1 c2 e0 e1 e2
      rintro e y1 ⟨rfl, hb⟩
      have HY1 := Lib.hid hb; have BU4 := Lib.hid (BU3.out.later hb); have BQ4 := Lib.hid (BQ3.out.later hb); clear hb
      cases o1 with
      | false =>
        have HOF := Lib.hid (show o = false from HO.out.symm)
        go_wp2_with fail
        go_meet
        case rel => exact ⟨by rw [HOF.out], HY1.out⟩
      | true =>
        have HOF := Lib.hid (show o = o2 from HO.out.symm.trans (Bool.true_and _))
        obtain ⟨d0, d1, d2⟩ := BU4.out.cells
        obtain ⟨g0, g1, g2⟩ := BQ4.out.cells
        go_wp2_with fail
        refine (ag_any BU4.out.says BQ4.out.says BU4.out.ty BQ4.out.ty HSU.out HSQ.out).mono ?_
        rw [HO2.out]
        clear d0 d1 d2 g0 g1 g2
        rintro e y2 ⟨rfl, hb⟩
        have HY2 := Lib.hid (HY1.out.tr hb (Nat.le_refl _)); clear hb
        go_wp2_with fail
        go_meet
        case rel => exact ⟨by rw [HOF.out], HY2.out⟩
    case rest =>
    obtain ⟨rfl, hbb⟩ := hcut
    have BX4 := Lib.hid (BX3.out.later hbb); have BU4 := Lib.hid (BU3.out.later hbb); have BP4 := Lib.hid (BP3.out.later hbb); have BQ4 := Lib.hid (BQ3.out.later hbb); have HB4 := Lib.hid (HB3.out.tr hbb (Nat.le_refl _))
    clear hbb
    obtain ⟨c0, c1, c2⟩ := BX4.out.cells
    obtain ⟨e0, e1, e2⟩ := BP4.out.cells
    go_wp2_with fail
    refine (mt_any BX4.out.says BP4.out.says BX4.out.ty BP4.out.ty HST.out HSP.out).mono ?_
    clear c0 c1 c2 e0 e1 e2
    rintro e w6 ⟨k1, n1, m1, a1, p1, hv1, rfl, ty1, hb⟩
    obtain ⟨W7, hW7⟩ : ∃ W7, w6.alloc (.cells #[.int .i64 k1, .int .i64 n1, .slice a1 m1 p1] 24) = W7 := ⟨_, rfl⟩
    have hb7 : Below w6.heap.size w6 W7 := by rw [← hW7]; exact (Below.refl _ _).alloc (Nat.le_refl _) _
    have hbb := hb.tr hb7 (Nat.le_refl _)
    have BM7 := Lib.hid (show BoxT W7 w6.heap.size (Mt t p) k1 n1 m1 a1 p1 from ⟨hv1, by rw [← hW7]; exact World.alloc_heap_new w6 _, ty_later ty1 hb7⟩)
    have BX7 := Lib.hid (BX4.out.later hbb); have BU7 := Lib.hid (BU4.out.later hbb); have BP7 := Lib.hid (BP4.out.later hbb); have BQ7 := Lib.hid (BQ4.out.later hbb); have HB7 := Lib.hid (HB4.out.tr hbb (Nat.le_refl _)); have HW7 := Lib.hid hW7
    clear hW7 hb7 hbb hv1 ty1 hb
    go_upto_region 5 with fail
    rw [HW7.out]
    obtain ⟨d0, d1, d2⟩ := BU7.out.cells
    obtain ⟨g0, g1, g2⟩ := BQ7.out.cells
    go_wp2_with fail
    refine (mt_any BU7.out.says BQ7.out.says BU7.out.ty BQ7.out.ty HSU.out HSQ.out).mono ?_
    clear d0 d1 d2 g0 g1 g2
    rintro e w8 ⟨k2, n2, m2, a2, p2, hv2, rfl, ty2, hb⟩
    obtain ⟨W9, hW9⟩ : ∃ W9, w8.alloc (.cells #[.int .i64 k2, .int .i64 n2, .slice a2 m2 p2] 24) = W9 := ⟨_, rfl⟩
    have hb9 : Below w8.heap.size w8 W9 := by rw [← hW9]; exact (Below.refl _ _).alloc (Nat.le_refl _) _
    have hbb := hb.tr hb9 (Nat.le_refl _)
    have BN9 := Lib.hid (show BoxT W9 w8.heap.size (Mt u q) k2 n2 m2 a2 p2 from ⟨hv2, by rw [← hW9]; exact World.alloc_heap_new w8 _, ty_later ty2 hb9⟩)
    have BM9 := Lib.hid (BM7.out.later hbb); have BX9 := Lib.hid (BX7.out.later hbb); have BU9 := Lib.hid (BU7.out.later hbb); have BP9 := Lib.hid (BP7.out.later hbb); have BQ9 := Lib.hid (BQ7.out.later hbb); have HB9 := Lib.hid (HB7.out.tr hbb (Nat.le_refl _)); have HW9 := Lib.hid hW9
    have HCELL := Lib.hid (fun x (h : Below W9.heap.size W9 x) => (⟨(BX9.out.later h).cells, (BU9.out.later h).cells, (BP9.out.later h).cells, (BQ9.out.later h).cells, (BM9.out.later h).cells, (BN9.out.later h).cells⟩ : _ ∧ _ ∧ _ ∧ _ ∧ _ ∧ _))
    have HLE := Lib.hid (fun x (h : Below W9.heap.size W9 x) => h.size)
    clear hW9 hb9 hbb hv2 ty2 hb
    go_upto_region 6 with fail
    rw [HW9.out]
    go_wp2_with fail
    go_loopg [14] 2 (fun gk i wr => ∃ k : Nat, k ≤ 2 ∧ i = .int .i64 k ∧ Below W9.heap.size W9 wr ∧ gk = 2 - k)
    case atStart => exact ⟨0, Nat.zero_le _, rfl, Below.refl _ _, rfl⟩
    case round =>
      obtain ⟨k, hk, rfl, hb, rfl⟩ := hrel
      have HBR := Lib.hid hb; clear hb
      by_cases hlt : k < 2
      · obtain ⟨kk, hkk⟩ : ∃ kk : Int, (if k = 0 then 7 else 9) = kk := ⟨_, rfl⟩
        have HKK := Lib.hid hkk
        have HI := Lib.hid (show I64 kk by rw [← hkk]; unfold I64; split <;> omega)
        have HTO := Lib.hid (show Tp.ok (.mk kk 0 [t, u]) (.mk kk 0 [p, q]) = o ∧ (o = true → Mt (.mk kk 0 [t, u]) (.mk kk 0 [p, q]) = .mk kk 0 [Mt t p, Mt u q]) by
          rw [← hkk]; split
          · exact H7.out
          · exact H9.out)
        clear hkk
        go_upto_region 9 with fail
        go_cut [15] from 47 to 81 (fun v wx => v = .int .i64 kk ∧ Below wr.heap.size wr wx)
        case first =>
          obtain rfl | rfl : k = 0 ∨ k = 1 := by omega
          · go_wp2_with fail
            go_meet
            case rel => exact ⟨by rw [← HKK.out]; rfl, (Below.refl _ _).alloc (Nat.le_refl _) _⟩
          · go_wp2_with fail
            go_meet
            case rel => exact ⟨by rw [← HKK.out]; rfl, (Below.refl _ _).alloc (Nat.le_refl _) _⟩
        case rest =>
        obtain ⟨rfl, hb⟩ := hcut
        have HBC := Lib.hid (HBR.out.tr hb (Nat.le_refl _))
        clear hb
        have HBD := Lib.hid HBC.out.drew
        have HBA := Lib.hid (HBC.out.drew.alloc HBC.out.size (.cells #[.int .i64 0, .int .i64 0, .slice none 0 0] 24))
        have HA := Lib.hid (fun x (h : Below W9.heap.size W9 x) => two_ty kk HI.out (BX9.out.later h).says (BU9.out.later h).says (BX9.out.later h).ty (BU9.out.later h).ty)
        have HB := Lib.hid (fun x (h : Below W9.heap.size W9 x) => two_ty kk HI.out (BP9.out.later h).says (BQ9.out.later h).says (BP9.out.later h).ty (BQ9.out.later h).ty)
        have HM := Lib.hid (fun (x : World) g g' (ht : TyAt (LT x.heap.size) x (.mk kk 0 [t, u]) (some ⟨g, 0, none⟩) 2) (ht' : TyAt (LT x.heap.size) x (.mk kk 0 [p, q]) (some ⟨g', 0, none⟩) 2) => mt_any (w := x) (t := .mk kk 0 [t, u]) (u := .mk kk 0 [p, q]) (k := kk) (n := 0) (m := 2) (k' := kk) (n' := 0) (m' := 2) ⟨rfl, rfl, rfl⟩ ⟨rfl, rfl, rfl⟩ ht ht' (two_sz (by have := HSZ.out; omega)) (two_sz (by have := HSZ.out; omega)))
        go_upto_region 10 with fail
        go_cut [16, 17] from 55 to 81 (fun v v17 wx => ∃ bb km nm mm am cm, v = .pointer (some ⟨bb, 0, none⟩) ∧ v17 = .bool o ∧ BoxT wx bb (Mt (.mk kk 0 [t, u]) (.mk kk 0 [p, q])) km nm mm am cm ∧ Below W9.heap.size W9 wx)
        case first =>
          obtain ⟨⟨c0, c1, c2⟩, ⟨d0, d1, d2⟩, ⟨e0, e1, e2⟩, ⟨g0, g1, g2⟩, -⟩ := HCELL.out _ HBD.out
          have HZ0 := Lib.hid (World.alloc_heap_new wc.drew (.cells #[.int .i64 0, .int .i64 0, .slice none 0 0] 24))
          refine wp_region_held_drew (S := Below W9.heap.size W9) (by kernel_rfl) HBD.out (fun _ => ?_)
          clear c0 c1 c2 d0 d1 d2 e0 e1 e2 g0 g1 g2
          refine wpAnyH_take (i := 0) (oi := ⟨some 56, _, _, _, _, _⟩) (v := ?_) rfl (by kernel_rfl) (by kernel_rfl) (by kernel_rfl) (fun _ _ _ h => h) (Or.inl ⟨by rfl, ?_⟩) HBD.out ?_
          rotate_left
          · (intro xx hSw; obtain ⟨⟨c0, c1, c2⟩, ⟨d0, d1, d2⟩, ⟨e0, e1, e2⟩, ⟨g0, g1, g2⟩, -⟩ := HCELL.out _ hSw; go_simp; (try with_reducible rfl))
          try simp only [Act.put, List.setIfInBounds_toArray, List.set_cons_zero, List.set_cons_succ]
          refine wpAnyH_take (i := 1) (oi := ⟨some 57, _, _, _, _, _⟩) (v := ?_) rfl (by kernel_rfl) (by kernel_rfl) (by kernel_rfl) (fun _ _ _ h => h) (Or.inl ⟨by rfl, ?_⟩) HBD.out ?_
          rotate_left
          · (intro xx hSw; obtain ⟨⟨c0, c1, c2⟩, ⟨d0, d1, d2⟩, ⟨e0, e1, e2⟩, ⟨g0, g1, g2⟩, -⟩ := HCELL.out _ hSw; go_simp; (try with_reducible rfl))
          try simp only [Act.put, List.setIfInBounds_toArray, List.set_cons_zero, List.set_cons_succ]
          refine wpAnyH_take (i := 2) (oi := ⟨some 58, _, _, _, _, _⟩) (v := ?_) rfl (by kernel_rfl) (by kernel_rfl) (by kernel_rfl) (fun _ _ _ h => h) (Or.inl ⟨by rfl, ?_⟩) HBD.out ?_
          rotate_left
          · (intro xx hSw; obtain ⟨⟨c0, c1, c2⟩, ⟨d0, d1, d2⟩, ⟨e0, e1, e2⟩, ⟨g0, g1, g2⟩, -⟩ := HCELL.out _ hSw; go_simp; (try with_reducible rfl))
          try simp only [Act.put, List.setIfInBounds_toArray, List.set_cons_zero, List.set_cons_succ]
          refine wpAnyH_take (i := 4) (oi := ⟨some 60, _, _, _, _, _⟩) (v := ?_) rfl (by kernel_rfl) (by kernel_rfl) (by kernel_rfl) (fun _ _ _ h => h) (Or.inl ⟨by rfl, ?_⟩) HBD.out ?_
          rotate_left
          · (intro xx hSw; obtain ⟨⟨c0, c1, c2⟩, ⟨d0, d1, d2⟩, ⟨e0, e1, e2⟩, ⟨g0, g1, g2⟩, -⟩ := HCELL.out _ hSw; go_simp; (try with_reducible rfl))
          try simp only [Act.put, List.setIfInBounds_toArray, List.set_cons_zero, List.set_cons_succ]
          refine wpAnyH_take (i := 5) (oi := ⟨some 61, _, _, _, _, _⟩) (v := ?_) rfl (by kernel_rfl) (by kernel_rfl) (by kernel_rfl) (fun _ _ _ h => h) (Or.inl ⟨by rfl, ?_⟩) HBD.out ?_
          rotate_left
          · (intro xx hSw; obtain ⟨⟨c0, c1, c2⟩, ⟨d0, d1, d2⟩, ⟨e0, e1, e2⟩, ⟨g0, g1, g2⟩, -⟩ := HCELL.out _ hSw; go_simp; (try with_reducible rfl))
          try simp only [Act.put, List.setIfInBounds_toArray, List.set_cons_zero, List.set_cons_succ]
          refine wpAnyH_take (i := 6) (oi := ⟨some 62, _, _, _, _, _⟩) (v := ?_) rfl (by kernel_rfl) (by kernel_rfl) (by kernel_rfl) (fun _ _ _ h => h) (Or.inl ⟨by rfl, ?_⟩) HBD.out ?_
          rotate_left
          · (intro xx hSw; obtain ⟨⟨c0, c1, c2⟩, ⟨d0, d1, d2⟩, ⟨e0, e1, e2⟩, ⟨g0, g1, g2⟩, -⟩ := HCELL.out _ hSw; go_simp; (try with_reducible rfl))
          try simp only [Act.put, List.setIfInBounds_toArray, List.set_cons_zero, List.set_cons_succ]
          refine wpAnyH_ready (rs := [3, 12]) (by kernel_rfl) (by simp) ?_
          refine AllReadyH.cons (o := ⟨some 59, _, _, _, _, _⟩) rfl (fun K hK => ?_) (AllReadyH.cons (o := ⟨some 16, _, _, _, _, _⟩) rfl (fun K hK => ?_) AllReadyH.nil)
          · skip
            go_simp
            refine (HA.out _ HBD.out).mono ?_
            rintro e y1 ⟨f1, rfl, ht, hb⟩
            have HY1 := Lib.hid (Go.RowKit.Below.tr HBD.out hb (Nat.le_refl _))
            have HK1 := Lib.hid hb
            have HT1 := Lib.hid ht
            clear hb ht
            dsimp only
            refine hK.out _ _ HY1.out (fun _ => ?_)
            clear hK K
            try simp only [Act.put, List.setIfInBounds_toArray, List.set_cons_zero, List.set_cons_succ]
            refine wpAnyH_ready (rs := [7, 12]) (by kernel_rfl) (by simp) ?_
            refine AllReadyH.cons (o := ⟨some 63, _, _, _, _, _⟩) rfl (fun K hK => ?_) (AllReadyH.cons (o := ⟨some 16, _, _, _, _, _⟩) rfl (fun K hK => ?_) AllReadyH.nil)
            · skip
              go_simp
              refine (HB.out _ HY1.out).mono ?_
              rintro e y2 ⟨f2, rfl, ht, hb⟩
              have HY2 := Lib.hid (Go.RowKit.Below.tr HY1.out hb (Nat.le_refl _))
              have HK2 := Lib.hid hb
              have HT2 := Lib.hid ht
              have HT12 := Lib.hid (ty_later HT1.out hb)
              clear hb ht
              dsimp only
              refine hK.out _ _ HY2.out (fun _ => ?_)
              clear hK K
              try simp only [Act.put, List.setIfInBounds_toArray, List.set_cons_zero, List.set_cons_succ]
              refine wpAnyH_ready (rs := [8, 12]) (by kernel_rfl) (by simp) ?_
              refine AllReadyH.cons (o := ⟨some 64, _, _, _, _, _⟩) rfl (fun K hK => ?_) (AllReadyH.cons (o := ⟨some 16, _, _, _, _, _⟩) rfl (fun K hK => ?_) AllReadyH.nil)
              · skip
                go_simp
                refine (HM.out _ f1 f2 HT12.out HT2.out).mono ?_
                rintro e y3 ⟨km, nm, mm, am, cm, hv, rfl, ht, hb⟩
                rw [HTO.out.1]
                have HY3 := Lib.hid (Go.RowKit.Below.tr HY2.out hb (Nat.le_refl _))
                have HK3 := Lib.hid hb
                have HV3 := Lib.hid hv
                have HT3 := Lib.hid ht
                clear hb hv ht
                dsimp only
                refine hK.out _ _ HY3.out (fun _ => ?_)
                clear hK K
                try simp only [Act.put, List.setIfInBounds_toArray, List.set_cons_zero, List.set_cons_succ]
                refine wpAnyH_take (i := 9) (oi := ⟨some 55, _, _, _, _, _⟩) (v := ?_) rfl (by kernel_rfl) (by kernel_rfl) (by kernel_rfl) (fun _ _ _ h => h) (Or.inl ⟨by rfl, ?_⟩) HY3.out ?_
                rotate_left
                · (intro xx hSw; obtain ⟨⟨c0, c1, c2⟩, ⟨d0, d1, d2⟩, ⟨e0, e1, e2⟩, ⟨g0, g1, g2⟩, -⟩ := HCELL.out _ hSw; go_simp; (try with_reducible rfl))
                try simp only [Act.put, List.setIfInBounds_toArray, List.set_cons_zero, List.set_cons_succ]
                refine wpAnyH_take (i := 10) (oi := ⟨some 65, _, _, _, _, _⟩) (v := ?_) rfl (by kernel_rfl) (by kernel_rfl) (by kernel_rfl) (fun _ _ _ h => h) (Or.inl ⟨by rfl, ?_⟩) HY3.out ?_
                rotate_left
                · (intro xx hSw; obtain ⟨⟨c0, c1, c2⟩, ⟨d0, d1, d2⟩, ⟨e0, e1, e2⟩, ⟨g0, g1, g2⟩, -⟩ := HCELL.out _ hSw; go_simp; (try with_reducible rfl))
                try simp only [Act.put, List.setIfInBounds_toArray, List.set_cons_zero, List.set_cons_succ]
                refine wpAnyH_take (i := 11) (oi := ⟨some 66, _, _, _, _, _⟩) (v := ?_) rfl (by kernel_rfl) (by kernel_rfl) (by kernel_rfl) (fun _ _ _ h => h) (Or.inl ⟨by rfl, ?_⟩) HY3.out ?_
                rotate_left
                · (intro xx hSw; obtain ⟨⟨c0, c1, c2⟩, ⟨d0, d1, d2⟩, ⟨e0, e1, e2⟩, ⟨g0, g1, g2⟩, -⟩ := HCELL.out _ hSw; go_simp; (try with_reducible rfl))
                try simp only [Act.put, List.setIfInBounds_toArray, List.set_cons_zero, List.set_cons_succ]
                refine wpAnyH_ready (rs := [12]) (by kernel_rfl) (by simp) ?_
                refine AllReadyH.cons (o := ⟨some 16, _, _, _, _, _⟩) rfl (fun K hK => ?_) AllReadyH.nil
                go_simp
                refine hK.out _ _ (HY3.out.alloc HY3.out.size (.cells #[.int .i64 0, .int .i64 0, .slice none 0 0] 24)) (fun _ => ?_)
                clear hK K
                try simp only [Act.put, List.setIfInBounds_toArray, List.set_cons_zero, List.set_cons_succ]
                have hpb := And.intro (show BoxT (y3.alloc (.cells #[.int .i64 km, .int .i64 nm, .slice am mm cm] 24)) y3.heap.size _ km nm mm am cm from ⟨HV3.out, World.alloc_heap_new y3 _, ty_later HT3.out ((Below.refl _ _).alloc (Nat.le_refl _) _)⟩) (HY3.out.alloc HY3.out.size (.cells #[.int .i64 km, .int .i64 nm, .slice am mm cm] 24))
                have HPB := Lib.hid hpb
                refine wpAnyH_ready (rs := [13]) (by kernel_rfl) (by simp) ?_
                refine AllReadyH.cons (o := ⟨none, _, _, _, _, _⟩) rfl (fun K hK => ?_) AllReadyH.nil
                go_simp
                refine hK.out _ _ hpb.2 (fun _ => ?_)
                clear hK K
                try simp only [Act.put, List.setIfInBounds_toArray, List.set_cons_zero, List.set_cons_succ]
                refine wpAnyH_take (i := 14) (oi := ⟨some 17, _, _, _, _, _⟩) (v := ?_) rfl (by kernel_rfl) (by kernel_rfl) (by kernel_rfl) (fun _ _ _ h => h) (Or.inl ⟨by rfl, ?_⟩) hpb.2 ?_
                rotate_left
                · (intro xx hSw; obtain ⟨⟨c0, c1, c2⟩, ⟨d0, d1, d2⟩, ⟨e0, e1, e2⟩, ⟨g0, g1, g2⟩, -⟩ := HCELL.out _ hSw; go_simp; (try with_reducible rfl))
                try simp only [Act.put, List.setIfInBounds_toArray, List.set_cons_zero, List.set_cons_succ]
                refine wpAnyH_done (by kernel_rfl) ?_ _
                go_wp2_with fail
                go_meet
                case rel => exact ⟨_, _, _, _, _, _, rfl, rfl, HPB.out.1, HPB.out.2⟩
              · skip
                go_simp
                refine hK.out _ _ (HY2.out.alloc HY2.out.size (.cells #[.int .i64 0, .int .i64 0, .slice none 0 0] 24)) (fun _ => ?_)
                clear hK K
                try simp only [Act.put, List.setIfInBounds_toArray, List.set_cons_zero, List.set_cons_succ]
                refine wpAnyH_ready (rs := [8]) (by kernel_rfl) (by simp) ?_
                refine AllReadyH.cons (o := ⟨some 64, _, _, _, _, _⟩) rfl (fun K hK => ?_) AllReadyH.nil
                go_simp
                refine (HM.out _ f1 f2 (ty_later HT12.out ((Below.refl _ _).alloc (Nat.le_refl _) _)) (ty_later HT2.out ((Below.refl _ _).alloc (Nat.le_refl _) _))).mono ?_
                rintro e y3 ⟨km, nm, mm, am, cm, hv, rfl, ht, hb⟩
                rw [HTO.out.1]
                have HY3 := Lib.hid (Go.RowKit.Below.tr (HY2.out.alloc HY2.out.size (.cells #[.int .i64 0, .int .i64 0, .slice none 0 0] 24)) hb (Nat.le_refl _))
                have HK3 := Lib.hid hb
                have HV3 := Lib.hid hv
                have HT3 := Lib.hid ht
                clear hb hv ht
                dsimp only
                refine hK.out _ _ HY3.out (fun _ => ?_)
                clear hK K
                try simp only [Act.put, List.setIfInBounds_toArray, List.set_cons_zero, List.set_cons_succ]
                refine wpAnyH_take (i := 9) (oi := ⟨some 55, _, _, _, _, _⟩) (v := ?_) rfl (by kernel_rfl) (by kernel_rfl) (by kernel_rfl) (fun _ _ _ h => h) (Or.inl ⟨by rfl, ?_⟩) HY3.out ?_
                rotate_left
                · (intro xx hSw; obtain ⟨⟨c0, c1, c2⟩, ⟨d0, d1, d2⟩, ⟨e0, e1, e2⟩, ⟨g0, g1, g2⟩, -⟩ := HCELL.out _ hSw; go_simp; (try with_reducible rfl))
                try simp only [Act.put, List.setIfInBounds_toArray, List.set_cons_zero, List.set_cons_succ]
                refine wpAnyH_take (i := 10) (oi := ⟨some 65, _, _, _, _, _⟩) (v := ?_) rfl (by kernel_rfl) (by kernel_rfl) (by kernel_rfl) (fun _ _ _ h => h) (Or.inl ⟨by rfl, ?_⟩) HY3.out ?_
                rotate_left
                · (intro xx hSw; obtain ⟨⟨c0, c1, c2⟩, ⟨d0, d1, d2⟩, ⟨e0, e1, e2⟩, ⟨g0, g1, g2⟩, -⟩ := HCELL.out _ hSw; go_simp; (try with_reducible rfl))
                try simp only [Act.put, List.setIfInBounds_toArray, List.set_cons_zero, List.set_cons_succ]
                refine wpAnyH_take (i := 11) (oi := ⟨some 66, _, _, _, _, _⟩) (v := ?_) rfl (by kernel_rfl) (by kernel_rfl) (by kernel_rfl) (fun _ _ _ h => h) (Or.inl ⟨by rfl, ?_⟩) HY3.out ?_
                rotate_left
                · (intro xx hSw; obtain ⟨⟨c0, c1, c2⟩, ⟨d0, d1, d2⟩, ⟨e0, e1, e2⟩, ⟨g0, g1, g2⟩, -⟩ := HCELL.out _ hSw; go_simp; (try with_reducible rfl))
                try simp only [Act.put, List.setIfInBounds_toArray, List.set_cons_zero, List.set_cons_succ]
                have hz : y3.heap[y2.heap.size]? = some (.cells #[.int .i64 0, .int .i64 0, .slice none 0 0] 24 (0, 0)) := (HK3.out.block _ (by simp)).trans (World.alloc_heap_new y2 _)
                have hle := HY2.out.size
                have hty := HT3.out
                have hbe := HY3.out
                have hpb := put_box HV3.out (Mt_kids _ _) hz hty hbe hle rfl
                obtain ⟨z0, z1, z2, z3, z4, z5⟩ := zero_facts hz
                have HPB := Lib.hid hpb
                clear hz hle hty hbe
                refine wpAnyH_ready (rs := [13]) (by kernel_rfl) (by simp) ?_
                refine AllReadyH.cons (o := ⟨none, _, _, _, _, _⟩) rfl (fun K hK => ?_) AllReadyH.nil
                go_simp
                refine hK.out _ _ hpb.2 (fun _ => ?_)
                clear hK K
                try simp only [Act.put, List.setIfInBounds_toArray, List.set_cons_zero, List.set_cons_succ]
                refine wpAnyH_take (i := 14) (oi := ⟨some 17, _, _, _, _, _⟩) (v := ?_) rfl (by kernel_rfl) (by kernel_rfl) (by kernel_rfl) (fun _ _ _ h => h) (Or.inl ⟨by rfl, ?_⟩) hpb.2 ?_
                rotate_left
                · (intro xx hSw; obtain ⟨⟨c0, c1, c2⟩, ⟨d0, d1, d2⟩, ⟨e0, e1, e2⟩, ⟨g0, g1, g2⟩, -⟩ := HCELL.out _ hSw; go_simp; (try with_reducible rfl))
                try simp only [Act.put, List.setIfInBounds_toArray, List.set_cons_zero, List.set_cons_succ]
                refine wpAnyH_done (by kernel_rfl) ?_ _
                go_wp2_with fail
                go_meet
                case rel => exact ⟨_, _, _, _, _, _, rfl, rfl, HPB.out.1, HPB.out.2⟩
            · skip
              go_simp
              refine hK.out _ _ (HY1.out.alloc HY1.out.size (.cells #[.int .i64 0, .int .i64 0, .slice none 0 0] 24)) (fun _ => ?_)
              clear hK K
              try simp only [Act.put, List.setIfInBounds_toArray, List.set_cons_zero, List.set_cons_succ]
              refine wpAnyH_ready (rs := [7]) (by kernel_rfl) (by simp) ?_
              refine AllReadyH.cons (o := ⟨some 63, _, _, _, _, _⟩) rfl (fun K hK => ?_) AllReadyH.nil
              go_simp
              refine (HB.out _ (HY1.out.alloc HY1.out.size (.cells #[.int .i64 0, .int .i64 0, .slice none 0 0] 24))).mono ?_
              rintro e y2 ⟨f2, rfl, ht, hb⟩
              have HY2 := Lib.hid (Go.RowKit.Below.tr (HY1.out.alloc HY1.out.size (.cells #[.int .i64 0, .int .i64 0, .slice none 0 0] 24)) hb (Nat.le_refl _))
              have HK2 := Lib.hid hb
              have HT2 := Lib.hid ht
              have HT12 := Lib.hid (ty_later (ty_later HT1.out ((Below.refl _ _).alloc (Nat.le_refl _) _)) hb)
              clear hb ht
              dsimp only
              refine hK.out _ _ HY2.out (fun _ => ?_)
              clear hK K
              try simp only [Act.put, List.setIfInBounds_toArray, List.set_cons_zero, List.set_cons_succ]
              refine wpAnyH_ready (rs := [8]) (by kernel_rfl) (by simp) ?_
              refine AllReadyH.cons (o := ⟨some 64, _, _, _, _, _⟩) rfl (fun K hK => ?_) AllReadyH.nil
              go_simp
              refine (HM.out _ f1 f2 HT12.out HT2.out).mono ?_
              rintro e y3 ⟨km, nm, mm, am, cm, hv, rfl, ht, hb⟩
              rw [HTO.out.1]
              have HY3 := Lib.hid (Go.RowKit.Below.tr HY2.out hb (Nat.le_refl _))
              have HK3 := Lib.hid hb
              have HV3 := Lib.hid hv
              have HT3 := Lib.hid ht
              clear hb hv ht
              dsimp only
              refine hK.out _ _ HY3.out (fun _ => ?_)
              clear hK K
              try simp only [Act.put, List.setIfInBounds_toArray, List.set_cons_zero, List.set_cons_succ]
              refine wpAnyH_take (i := 9) (oi := ⟨some 55, _, _, _, _, _⟩) (v := ?_) rfl (by kernel_rfl) (by kernel_rfl) (by kernel_rfl) (fun _ _ _ h => h) (Or.inl ⟨by rfl, ?_⟩) HY3.out ?_
              rotate_left
              · (intro xx hSw; obtain ⟨⟨c0, c1, c2⟩, ⟨d0, d1, d2⟩, ⟨e0, e1, e2⟩, ⟨g0, g1, g2⟩, -⟩ := HCELL.out _ hSw; go_simp; (try with_reducible rfl))
              try simp only [Act.put, List.setIfInBounds_toArray, List.set_cons_zero, List.set_cons_succ]
              refine wpAnyH_take (i := 10) (oi := ⟨some 65, _, _, _, _, _⟩) (v := ?_) rfl (by kernel_rfl) (by kernel_rfl) (by kernel_rfl) (fun _ _ _ h => h) (Or.inl ⟨by rfl, ?_⟩) HY3.out ?_
              rotate_left
              · (intro xx hSw; obtain ⟨⟨c0, c1, c2⟩, ⟨d0, d1, d2⟩, ⟨e0, e1, e2⟩, ⟨g0, g1, g2⟩, -⟩ := HCELL.out _ hSw; go_simp; (try with_reducible rfl))
              try simp only [Act.put, List.setIfInBounds_toArray, List.set_cons_zero, List.set_cons_succ]
              refine wpAnyH_take (i := 11) (oi := ⟨some 66, _, _, _, _, _⟩) (v := ?_) rfl (by kernel_rfl) (by kernel_rfl) (by kernel_rfl) (fun _ _ _ h => h) (Or.inl ⟨by rfl, ?_⟩) HY3.out ?_
              rotate_left
              · (intro xx hSw; obtain ⟨⟨c0, c1, c2⟩, ⟨d0, d1, d2⟩, ⟨e0, e1, e2⟩, ⟨g0, g1, g2⟩, -⟩ := HCELL.out _ hSw; go_simp; (try with_reducible rfl))
              try simp only [Act.put, List.setIfInBounds_toArray, List.set_cons_zero, List.set_cons_succ]
              have hz : y3.heap[y1.heap.size]? = some (.cells #[.int .i64 0, .int .i64 0, .slice none 0 0] 24 (0, 0)) := (HK3.out.block _ (Nat.lt_of_lt_of_le (by simp) HK2.out.size)).trans ((HK2.out.block _ (by simp)).trans (World.alloc_heap_new y1 _))
              have hle := HY1.out.size
              have hty := HT3.out
              have hbe := HY3.out
              have hpb := put_box HV3.out (Mt_kids _ _) hz hty hbe hle rfl
              obtain ⟨z0, z1, z2, z3, z4, z5⟩ := zero_facts hz
              have HPB := Lib.hid hpb
              clear hz hle hty hbe
              refine wpAnyH_ready (rs := [13]) (by kernel_rfl) (by simp) ?_
              refine AllReadyH.cons (o := ⟨none, _, _, _, _, _⟩) rfl (fun K hK => ?_) AllReadyH.nil
              go_simp
              refine hK.out _ _ hpb.2 (fun _ => ?_)
              clear hK K
              try simp only [Act.put, List.setIfInBounds_toArray, List.set_cons_zero, List.set_cons_succ]
              refine wpAnyH_take (i := 14) (oi := ⟨some 17, _, _, _, _, _⟩) (v := ?_) rfl (by kernel_rfl) (by kernel_rfl) (by kernel_rfl) (fun _ _ _ h => h) (Or.inl ⟨by rfl, ?_⟩) hpb.2 ?_
              rotate_left
              · (intro xx hSw; obtain ⟨⟨c0, c1, c2⟩, ⟨d0, d1, d2⟩, ⟨e0, e1, e2⟩, ⟨g0, g1, g2⟩, -⟩ := HCELL.out _ hSw; go_simp; (try with_reducible rfl))
              try simp only [Act.put, List.setIfInBounds_toArray, List.set_cons_zero, List.set_cons_succ]
              refine wpAnyH_done (by kernel_rfl) ?_ _
              go_wp2_with fail
              go_meet
              case rel => exact ⟨_, _, _, _, _, _, rfl, rfl, HPB.out.1, HPB.out.2⟩
          · skip
            go_simp
            refine hK.out _ _ (HBD.out.alloc HBD.out.size (.cells #[.int .i64 0, .int .i64 0, .slice none 0 0] 24)) (fun _ => ?_)
            clear hK K
            try simp only [Act.put, List.setIfInBounds_toArray, List.set_cons_zero, List.set_cons_succ]
            refine wpAnyH_ready (rs := [3]) (by kernel_rfl) (by simp) ?_
            refine AllReadyH.cons (o := ⟨some 59, _, _, _, _, _⟩) rfl (fun K hK => ?_) AllReadyH.nil
            go_simp
            refine (HA.out _ (HBD.out.alloc HBD.out.size (.cells #[.int .i64 0, .int .i64 0, .slice none 0 0] 24))).mono ?_
            rintro e y1 ⟨f1, rfl, ht, hb⟩
            have HY1 := Lib.hid (Go.RowKit.Below.tr (HBD.out.alloc HBD.out.size (.cells #[.int .i64 0, .int .i64 0, .slice none 0 0] 24)) hb (Nat.le_refl _))
            have HK1 := Lib.hid hb
            have HT1 := Lib.hid ht
            clear hb ht
            dsimp only
            refine hK.out _ _ HY1.out (fun _ => ?_)
            clear hK K
            try simp only [Act.put, List.setIfInBounds_toArray, List.set_cons_zero, List.set_cons_succ]
            refine wpAnyH_ready (rs := [7]) (by kernel_rfl) (by simp) ?_
            refine AllReadyH.cons (o := ⟨some 63, _, _, _, _, _⟩) rfl (fun K hK => ?_) AllReadyH.nil
            go_simp
            refine (HB.out _ HY1.out).mono ?_
            rintro e y2 ⟨f2, rfl, ht, hb⟩
            have HY2 := Lib.hid (Go.RowKit.Below.tr HY1.out hb (Nat.le_refl _))
            have HK2 := Lib.hid hb
            have HT2 := Lib.hid ht
            have HT12 := Lib.hid (ty_later HT1.out hb)
            clear hb ht
            dsimp only
            refine hK.out _ _ HY2.out (fun _ => ?_)
            clear hK K
            try simp only [Act.put, List.setIfInBounds_toArray, List.set_cons_zero, List.set_cons_succ]
            refine wpAnyH_ready (rs := [8]) (by kernel_rfl) (by simp) ?_
            refine AllReadyH.cons (o := ⟨some 64, _, _, _, _, _⟩) rfl (fun K hK => ?_) AllReadyH.nil
            go_simp
            refine (HM.out _ f1 f2 HT12.out HT2.out).mono ?_
            rintro e y3 ⟨km, nm, mm, am, cm, hv, rfl, ht, hb⟩
            rw [HTO.out.1]
            have HY3 := Lib.hid (Go.RowKit.Below.tr HY2.out hb (Nat.le_refl _))
            have HK3 := Lib.hid hb
            have HV3 := Lib.hid hv
            have HT3 := Lib.hid ht
            clear hb hv ht
            dsimp only
            refine hK.out _ _ HY3.out (fun _ => ?_)
            clear hK K
            try simp only [Act.put, List.setIfInBounds_toArray, List.set_cons_zero, List.set_cons_succ]
            refine wpAnyH_take (i := 9) (oi := ⟨some 55, _, _, _, _, _⟩) (v := ?_) rfl (by kernel_rfl) (by kernel_rfl) (by kernel_rfl) (fun _ _ _ h => h) (Or.inl ⟨by rfl, ?_⟩) HY3.out ?_
            rotate_left
            · (intro xx hSw; obtain ⟨⟨c0, c1, c2⟩, ⟨d0, d1, d2⟩, ⟨e0, e1, e2⟩, ⟨g0, g1, g2⟩, -⟩ := HCELL.out _ hSw; go_simp; (try with_reducible rfl))
            try simp only [Act.put, List.setIfInBounds_toArray, List.set_cons_zero, List.set_cons_succ]
            refine wpAnyH_take (i := 10) (oi := ⟨some 65, _, _, _, _, _⟩) (v := ?_) rfl (by kernel_rfl) (by kernel_rfl) (by kernel_rfl) (fun _ _ _ h => h) (Or.inl ⟨by rfl, ?_⟩) HY3.out ?_
            rotate_left
            · (intro xx hSw; obtain ⟨⟨c0, c1, c2⟩, ⟨d0, d1, d2⟩, ⟨e0, e1, e2⟩, ⟨g0, g1, g2⟩, -⟩ := HCELL.out _ hSw; go_simp; (try with_reducible rfl))
            try simp only [Act.put, List.setIfInBounds_toArray, List.set_cons_zero, List.set_cons_succ]
            refine wpAnyH_take (i := 11) (oi := ⟨some 66, _, _, _, _, _⟩) (v := ?_) rfl (by kernel_rfl) (by kernel_rfl) (by kernel_rfl) (fun _ _ _ h => h) (Or.inl ⟨by rfl, ?_⟩) HY3.out ?_
            rotate_left
            · (intro xx hSw; obtain ⟨⟨c0, c1, c2⟩, ⟨d0, d1, d2⟩, ⟨e0, e1, e2⟩, ⟨g0, g1, g2⟩, -⟩ := HCELL.out _ hSw; go_simp; (try with_reducible rfl))
            try simp only [Act.put, List.setIfInBounds_toArray, List.set_cons_zero, List.set_cons_succ]
            have hz : y3.heap[wc.heap.size]? = some (.cells #[.int .i64 0, .int .i64 0, .slice none 0 0] 24 (0, 0)) := (HK3.out.block _ (Nat.lt_of_lt_of_le (Nat.lt_of_lt_of_le (by simp) HK1.out.size) HK2.out.size)).trans ((HK2.out.block _ (Nat.lt_of_lt_of_le (by simp) HK1.out.size)).trans ((HK1.out.block _ (by simp)).trans (World.alloc_heap_new wc.drew _)))
            have hle : W9.heap.size ≤ wc.heap.size := HBC.out.size
            have hty := HT3.out
            have hbe := HY3.out
            have hpb := put_box HV3.out (Mt_kids _ _) hz hty hbe hle rfl
            obtain ⟨z0, z1, z2, z3, z4, z5⟩ := zero_facts hz
            have HPB := Lib.hid hpb
            clear hz hle hty hbe
            refine wpAnyH_ready (rs := [13]) (by kernel_rfl) (by simp) ?_
            refine AllReadyH.cons (o := ⟨none, _, _, _, _, _⟩) rfl (fun K hK => ?_) AllReadyH.nil
            go_simp
            refine hK.out _ _ hpb.2 (fun _ => ?_)
            clear hK K
            try simp only [Act.put, List.setIfInBounds_toArray, List.set_cons_zero, List.set_cons_succ]
            refine wpAnyH_take (i := 14) (oi := ⟨some 17, _, _, _, _, _⟩) (v := ?_) rfl (by kernel_rfl) (by kernel_rfl) (by kernel_rfl) (fun _ _ _ h => h) (Or.inl ⟨by rfl, ?_⟩) hpb.2 ?_
            rotate_left
            · (intro xx hSw; obtain ⟨⟨c0, c1, c2⟩, ⟨d0, d1, d2⟩, ⟨e0, e1, e2⟩, ⟨g0, g1, g2⟩, -⟩ := HCELL.out _ hSw; go_simp; (try with_reducible rfl))
            try simp only [Act.put, List.setIfInBounds_toArray, List.set_cons_zero, List.set_cons_succ]
            refine wpAnyH_done (by kernel_rfl) ?_ _
            go_wp2_with fail
            go_meet
            case rel => exact ⟨_, _, _, _, _, _, rfl, rfl, HPB.out.1, HPB.out.2⟩
        case rest =>
        obtain ⟨bb, km, nm, mm, am, cm, rfl, rfl, hbox, hb⟩ := hcut
        have BK := Lib.hid hbox; have HBE := Lib.hid hb
        clear hbox hb
        have HC2 := Lib.hid (fun x (h : Below wc.heap.size wc x) => two_ty kk HI.out (BM9.out.later (HBE.out.tr h (Nat.le_refl _))).says (BN9.out.later (HBE.out.tr h (Nat.le_refl _))).says (BM9.out.later (HBE.out.tr h (Nat.le_refl _))).ty (BN9.out.later (HBE.out.tr h (Nat.le_refl _))).ty)
        have HSX := Lib.hid (fun x g (h : Below wc.heap.size wc x) (ht : TyAt (LT x.heap.size) x (.mk kk 0 [Mt t p, Mt u q]) (some ⟨g, 0, none⟩) 2) => ks_any (w := x) (u := .mk kk 0 [Mt t p, Mt u q]) (k' := kk) (n' := 0) (m' := 2) (BK.out.later h).says ⟨rfl, rfl, rfl⟩ (BK.out.later h).ty ht)
        have HCE := Lib.hid (fun x (h : Below wc.heap.size wc x) => And.intro (BK.out.later h).cells (HCELL.out x (HBE.out.tr h (Nat.le_refl _))).2.2.2.2)
        have HBf := Lib.hid (Below.refl wc.heap.size wc).drew
        go_upto_region 11 with fail
        cases o with
        | false =>
          obtain ⟨⟨c0, c1, c2⟩, ⟨h0, h1, h2⟩, ⟨j0, j1, j2⟩⟩ := HCE.out _ HBf.out
          refine wp_region_seq [(0, false), (0, false), (0, false), (0, false), (0, false), (0, false), (0, false), (0, false), (0, false), (0, false), (0, true), (0, true), (0, false), (0, false), (0, false)] (by kernel_rfl) (by kernel_rfl) (by kernel_rfl) (fun _ _ _ d _ h => by cases d <;> exact h) ?_
          repeat
            first
            | (first | with_reducible refine sp0 (fun K hK => ?_) | with_reducible refine sp1 (fun K hK => ?_) | with_reducible refine sp2 (fun K hK => ?_) | with_reducible refine sp3 (fun K hK => ?_) | with_reducible refine sp4 (fun K hK => ?_)
               go_simp
               first
               | (with_reducible refine hK _ _ ?_; clear hK K)
               | (with_reducible apply Exists.intro
                  refine ⟨fun x hx => ?_, hK _ _ ?_⟩
                  first
                    | (with_reducible exact rfl)
                    | (have y0 := keepc hx c0; have y1 := keepc hx c1; have y2 := keepc hx c2; have y3 := keepc hx h0; have y4 := keepc hx h1; have y5 := keepc hx h2; have y6 := keepc hx j0; have y7 := keepc hx j1; have y8 := keepc hx j2; go_simp; done)
                    | (have y0 := keepc hx c0; have y1 := keepc hx c1; have y2 := keepc hx c2; have y3 := keepc hx h0; have y4 := keepc hx h1; have y5 := keepc hx h2; have y6 := keepc hx j0; have y7 := keepc hx j1; have y8 := keepc hx j2; go_simp; with_reducible exact rfl)
                  clear hK K))
            | (first | with_reducible refine sk0 ?_ (fun K hK => ?_) | with_reducible refine sk1 ?_ (fun K hK => ?_) | with_reducible refine sk2 ?_ (fun K hK => ?_) | with_reducible refine sk3 ?_ (fun K hK => ?_) | with_reducible refine sk4 ?_ (fun K hK => ?_)
               rfl
               go_simp
               with_reducible refine hK _ _ ?_
               clear hK K)
          with_reducible refine seq_nil ?_
          clear c0 c1 c2 h0 h1 h2 j0 j1 j2
          go_wp2_with fail
          go_roundg (2 - (k + 1))
          case measure => omega
          case rel => exact ⟨k + 1, by omega, by go_num, HBE.out.drew, rfl⟩
        | true =>
          have hsame : Tp.same (Mt (.mk kk 0 [t, u]) (.mk kk 0 [p, q])) (.mk kk 0 [Mt t p, Mt u q]) = true := by rw [HTO.out.2 rfl]; exact Tp.same_refl _
          rw [hsame] at HSX
          clear hsame
          obtain ⟨⟨c0, c1, c2⟩, ⟨h0, h1, h2⟩, ⟨j0, j1, j2⟩⟩ := HCE.out _ HBf.out
          refine wp_region_seq [(0, false), (0, false), (0, false), (0, false), (0, false), (0, false), (0, false), (0, false), (0, false), (0, false), (0, true), (0, true), (0, false), (0, false), (0, false)] (by kernel_rfl) (by kernel_rfl) (by kernel_rfl) (fun _ _ _ d _ h => by cases d <;> exact h) ?_
          repeat
            first
            | (first | with_reducible refine sp0 (fun K hK => ?_) | with_reducible refine sp1 (fun K hK => ?_) | with_reducible refine sp2 (fun K hK => ?_) | with_reducible refine sp3 (fun K hK => ?_) | with_reducible refine sp4 (fun K hK => ?_)
               go_simp
               first
               | (with_reducible refine hK _ _ ?_; clear hK K)
               | (with_reducible apply Exists.intro
                  refine ⟨fun x hx => ?_, hK _ _ ?_⟩
                  first
                    | (with_reducible exact rfl)
                    | (have y0 := keepc hx c0; have y1 := keepc hx c1; have y2 := keepc hx c2; have y3 := keepc hx h0; have y4 := keepc hx h1; have y5 := keepc hx h2; have y6 := keepc hx j0; have y7 := keepc hx j1; have y8 := keepc hx j2; go_simp; done)
                    | (have y0 := keepc hx c0; have y1 := keepc hx c1; have y2 := keepc hx c2; have y3 := keepc hx h0; have y4 := keepc hx h1; have y5 := keepc hx h2; have y6 := keepc hx j0; have y7 := keepc hx j1; have y8 := keepc hx j2; go_simp; with_reducible exact rfl)
                  clear hK K))
            | (first | with_reducible refine sk0 ?_ (fun K hK => ?_) | with_reducible refine sk1 ?_ (fun K hK => ?_) | with_reducible refine sk2 ?_ (fun K hK => ?_) | with_reducible refine sk3 ?_ (fun K hK => ?_) | with_reducible refine sk4 ?_ (fun K hK => ?_)
               rfl
               go_simp
               with_reducible refine hK _ _ ?_
               clear hK K)
          first | with_reducible refine sc0 (fun K hK => ?_) | with_reducible refine sc1 (fun K hK => ?_) | with_reducible refine sc2 (fun K hK => ?_) | with_reducible refine sc3 (fun K hK => ?_) | with_reducible refine sc4 (fun K hK => ?_)
          go_simp
          refine (HC2.out _ HBf.out).mono ?_
          clear c0 c1 c2 h0 h1 h2 j0 j1 j2
          rintro e y4 ⟨f4, rfl, ht, hb⟩
          have HY4 := Lib.hid (HBf.out.tr hb (Nat.le_refl _)); have HT4 := Lib.hid ht
          refine ⟨hb, hK _ _ ?_⟩
          clear hK K
          clear hb ht
          repeat
            first
            | (first | with_reducible refine sp0 (fun K hK => ?_) | with_reducible refine sp1 (fun K hK => ?_) | with_reducible refine sp2 (fun K hK => ?_) | with_reducible refine sp3 (fun K hK => ?_) | with_reducible refine sp4 (fun K hK => ?_)
               go_simp
               first
               | (with_reducible refine hK _ _ ?_; clear hK K)
               | (with_reducible apply Exists.intro
                  refine ⟨fun x hx => ?_, hK _ _ ?_⟩
                  first
                    | (with_reducible exact rfl)
                  clear hK K))
            | (first | with_reducible refine sk0 ?_ (fun K hK => ?_) | with_reducible refine sk1 ?_ (fun K hK => ?_) | with_reducible refine sk2 ?_ (fun K hK => ?_) | with_reducible refine sk3 ?_ (fun K hK => ?_) | with_reducible refine sk4 ?_ (fun K hK => ?_)
               rfl
               go_simp
               with_reducible refine hK _ _ ?_
               clear hK K)
          first | with_reducible refine sc0 (fun K hK => ?_) | with_reducible refine sc1 (fun K hK => ?_) | with_reducible refine sc2 (fun K hK => ?_) | with_reducible refine sc3 (fun K hK => ?_) | with_reducible refine sc4 (fun K hK => ?_)
          go_simp
          refine (HSX.out _ f4 HY4.out HT4.out).mono ?_
          rintro e y5 ⟨rfl, hb⟩
          have HY5 := Lib.hid (HY4.out.tr hb (Nat.le_refl _))
          refine ⟨hb, hK _ _ ?_⟩
          clear hK K
          clear hb
          repeat
            first
            | (first | with_reducible refine sp0 (fun K hK => ?_) | with_reducible refine sp1 (fun K hK => ?_) | with_reducible refine sp2 (fun K hK => ?_) | with_reducible refine sp3 (fun K hK => ?_) | with_reducible refine sp4 (fun K hK => ?_)
               go_simp
               first
               | (with_reducible refine hK _ _ ?_; clear hK K)
               | (with_reducible apply Exists.intro
                  refine ⟨fun x hx => ?_, hK _ _ ?_⟩
                  first
                    | (with_reducible exact rfl)
                  clear hK K))
            | (first | with_reducible refine sk0 ?_ (fun K hK => ?_) | with_reducible refine sk1 ?_ (fun K hK => ?_) | with_reducible refine sk2 ?_ (fun K hK => ?_) | with_reducible refine sk3 ?_ (fun K hK => ?_) | with_reducible refine sk4 ?_ (fun K hK => ?_)
               rfl
               go_simp
               with_reducible refine hK _ _ ?_
               clear hK K)
          with_reducible refine seq_nil ?_
          go_wp2_with fail
          go_roundg (2 - (k + 1))
          case measure => omega
          case rel => exact ⟨k + 1, by omega, by go_num, HBE.out.tr HY5.out (Nat.le_refl _), rfl⟩
      · obtain rfl : k = 2 := by omega
        have HBD := Lib.hid HBR.out.drew
        have HLA := Lib.hid (fun x (h : Below W9.heap.size W9 x) => list_ty (BX9.out.later h).says (BX9.out.later h).ty)
        have HLB := Lib.hid (fun x (h : Below W9.heap.size W9 x) => list_ty (BP9.out.later h).says (BP9.out.later h).ty)
        have HML := Lib.hid (fun (x : World) g g' (ht : TyAt (LT x.heap.size) x (.mk 8 0 [t]) (some ⟨g, 0, none⟩) 1) (ht' : TyAt (LT x.heap.size) x (.mk 8 0 [p]) (some ⟨g', 0, none⟩) 1) => mt_any (w := x) (t := .mk 8 0 [t]) (u := .mk 8 0 [p]) (k := 8) (n := 0) (m := 1) (k' := 8) (n' := 0) (m' := 1) ⟨rfl, rfl, rfl⟩ ⟨rfl, rfl, rfl⟩ ht ht' (list_sz (by have := HSZ.out; omega)) (list_sz (by have := HSZ.out; omega)))
        go_upto_region 13 with fail
        go_cut [18, 19] from 82 (fun v v17 wx => ∃ bb km nm mm am cm, v = .pointer (some ⟨bb, 0, none⟩) ∧ v17 = .bool o1 ∧ BoxT wx bb (Mt (.mk 8 0 [t]) (.mk 8 0 [p])) km nm mm am cm ∧ Below W9.heap.size W9 wx)
        case first =>
          refine wp_region_held_drew (S := Below W9.heap.size W9) (by kernel_rfl) HBD.out (fun _ => ?_)
          refine wpAnyH_take (i := 0) (oi := ⟨some 83, _, _, _, _, _⟩) (v := ?_) rfl (by kernel_rfl) (by kernel_rfl) (by kernel_rfl) (fun _ _ _ h => h) (Or.inl ⟨by rfl, ?_⟩) HBD.out ?_
          rotate_left
          · (intro xx hSw; obtain ⟨⟨c0, c1, c2⟩, ⟨d0, d1, d2⟩, ⟨e0, e1, e2⟩, ⟨g0, g1, g2⟩, -⟩ := HCELL.out _ hSw; go_simp; (try with_reducible rfl))
          try simp only [Act.put, List.setIfInBounds_toArray, List.set_cons_zero, List.set_cons_succ]
          refine wpAnyH_take (i := 2) (oi := ⟨some 85, _, _, _, _, _⟩) (v := ?_) rfl (by kernel_rfl) (by kernel_rfl) (by kernel_rfl) (fun _ _ _ h => h) (Or.inl ⟨by rfl, ?_⟩) HBD.out ?_
          rotate_left
          · (intro xx hSw; obtain ⟨⟨c0, c1, c2⟩, ⟨d0, d1, d2⟩, ⟨e0, e1, e2⟩, ⟨g0, g1, g2⟩, -⟩ := HCELL.out _ hSw; go_simp; (try with_reducible rfl))
          try simp only [Act.put, List.setIfInBounds_toArray, List.set_cons_zero, List.set_cons_succ]
          refine wpAnyH_ready (rs := [1, 8]) (by kernel_rfl) (by simp) ?_
          refine AllReadyH.cons (o := ⟨some 84, _, _, _, _, _⟩) rfl (fun K hK => ?_) (AllReadyH.cons (o := ⟨some 18, _, _, _, _, _⟩) rfl (fun K hK => ?_) AllReadyH.nil)
          · skip
            go_simp
            refine (HLA.out _ HBD.out).mono ?_
            rintro e y1 ⟨f1, rfl, ht, hb⟩
            have HY1 := Lib.hid (Go.RowKit.Below.tr HBD.out hb (Nat.le_refl _))
            have HK1 := Lib.hid hb
            have HT1 := Lib.hid ht
            clear hb ht
            dsimp only
            refine hK.out _ _ HY1.out (fun _ => ?_)
            clear hK K
            try simp only [Act.put, List.setIfInBounds_toArray, List.set_cons_zero, List.set_cons_succ]
            refine wpAnyH_ready (rs := [3, 8]) (by kernel_rfl) (by simp) ?_
            refine AllReadyH.cons (o := ⟨some 86, _, _, _, _, _⟩) rfl (fun K hK => ?_) (AllReadyH.cons (o := ⟨some 18, _, _, _, _, _⟩) rfl (fun K hK => ?_) AllReadyH.nil)
            · skip
              go_simp
              refine (HLB.out _ HY1.out).mono ?_
              rintro e y2 ⟨f2, rfl, ht, hb⟩
              have HY2 := Lib.hid (Go.RowKit.Below.tr HY1.out hb (Nat.le_refl _))
              have HK2 := Lib.hid hb
              have HT2 := Lib.hid ht
              have HT12 := Lib.hid (ty_later HT1.out hb)
              clear hb ht
              dsimp only
              refine hK.out _ _ HY2.out (fun _ => ?_)
              clear hK K
              try simp only [Act.put, List.setIfInBounds_toArray, List.set_cons_zero, List.set_cons_succ]
              refine wpAnyH_ready (rs := [4, 8]) (by kernel_rfl) (by simp) ?_
              refine AllReadyH.cons (o := ⟨some 87, _, _, _, _, _⟩) rfl (fun K hK => ?_) (AllReadyH.cons (o := ⟨some 18, _, _, _, _, _⟩) rfl (fun K hK => ?_) AllReadyH.nil)
              · skip
                go_simp
                refine (HML.out _ f1 f2 HT12.out HT2.out).mono ?_
                rintro e y3 ⟨km, nm, mm, am, cm, hv, rfl, ht, hb⟩
                rw [H8.out.1]
                have HY3 := Lib.hid (Go.RowKit.Below.tr HY2.out hb (Nat.le_refl _))
                have HK3 := Lib.hid hb
                have HV3 := Lib.hid hv
                have HT3 := Lib.hid ht
                clear hb hv ht
                dsimp only
                refine hK.out _ _ HY3.out (fun _ => ?_)
                clear hK K
                try simp only [Act.put, List.setIfInBounds_toArray, List.set_cons_zero, List.set_cons_succ]
                refine wpAnyH_take (i := 5) (oi := ⟨some 82, _, _, _, _, _⟩) (v := ?_) rfl (by kernel_rfl) (by kernel_rfl) (by kernel_rfl) (fun _ _ _ h => h) (Or.inl ⟨by rfl, ?_⟩) HY3.out ?_
                rotate_left
                · (intro xx hSw; obtain ⟨⟨c0, c1, c2⟩, ⟨d0, d1, d2⟩, ⟨e0, e1, e2⟩, ⟨g0, g1, g2⟩, -⟩ := HCELL.out _ hSw; go_simp; (try with_reducible rfl))
                try simp only [Act.put, List.setIfInBounds_toArray, List.set_cons_zero, List.set_cons_succ]
                refine wpAnyH_take (i := 6) (oi := ⟨some 88, _, _, _, _, _⟩) (v := ?_) rfl (by kernel_rfl) (by kernel_rfl) (by kernel_rfl) (fun _ _ _ h => h) (Or.inl ⟨by rfl, ?_⟩) HY3.out ?_
                rotate_left
                · (intro xx hSw; obtain ⟨⟨c0, c1, c2⟩, ⟨d0, d1, d2⟩, ⟨e0, e1, e2⟩, ⟨g0, g1, g2⟩, -⟩ := HCELL.out _ hSw; go_simp; (try with_reducible rfl))
                try simp only [Act.put, List.setIfInBounds_toArray, List.set_cons_zero, List.set_cons_succ]
                refine wpAnyH_take (i := 7) (oi := ⟨some 89, _, _, _, _, _⟩) (v := ?_) rfl (by kernel_rfl) (by kernel_rfl) (by kernel_rfl) (fun _ _ _ h => h) (Or.inl ⟨by rfl, ?_⟩) HY3.out ?_
                rotate_left
                · (intro xx hSw; obtain ⟨⟨c0, c1, c2⟩, ⟨d0, d1, d2⟩, ⟨e0, e1, e2⟩, ⟨g0, g1, g2⟩, -⟩ := HCELL.out _ hSw; go_simp; (try with_reducible rfl))
                try simp only [Act.put, List.setIfInBounds_toArray, List.set_cons_zero, List.set_cons_succ]
                refine wpAnyH_ready (rs := [8]) (by kernel_rfl) (by simp) ?_
                refine AllReadyH.cons (o := ⟨some 18, _, _, _, _, _⟩) rfl (fun K hK => ?_) AllReadyH.nil
                go_simp
                refine hK.out _ _ (HY3.out.alloc HY3.out.size (.cells #[.int .i64 0, .int .i64 0, .slice none 0 0] 24)) (fun _ => ?_)
                clear hK K
                try simp only [Act.put, List.setIfInBounds_toArray, List.set_cons_zero, List.set_cons_succ]
                have hpb := And.intro (show BoxT (y3.alloc (.cells #[.int .i64 km, .int .i64 nm, .slice am mm cm] 24)) y3.heap.size _ km nm mm am cm from ⟨HV3.out, World.alloc_heap_new y3 _, ty_later HT3.out ((Below.refl _ _).alloc (Nat.le_refl _) _)⟩) (HY3.out.alloc HY3.out.size (.cells #[.int .i64 km, .int .i64 nm, .slice am mm cm] 24))
                have HPB := Lib.hid hpb
                refine wpAnyH_ready (rs := [9]) (by kernel_rfl) (by simp) ?_
                refine AllReadyH.cons (o := ⟨none, _, _, _, _, _⟩) rfl (fun K hK => ?_) AllReadyH.nil
                go_simp
                refine hK.out _ _ hpb.2 (fun _ => ?_)
                clear hK K
                try simp only [Act.put, List.setIfInBounds_toArray, List.set_cons_zero, List.set_cons_succ]
                refine wpAnyH_take (i := 10) (oi := ⟨some 19, _, _, _, _, _⟩) (v := ?_) rfl (by kernel_rfl) (by kernel_rfl) (by kernel_rfl) (fun _ _ _ h => h) (Or.inl ⟨by rfl, ?_⟩) hpb.2 ?_
                rotate_left
                · (intro xx hSw; obtain ⟨⟨c0, c1, c2⟩, ⟨d0, d1, d2⟩, ⟨e0, e1, e2⟩, ⟨g0, g1, g2⟩, -⟩ := HCELL.out _ hSw; go_simp; (try with_reducible rfl))
                try simp only [Act.put, List.setIfInBounds_toArray, List.set_cons_zero, List.set_cons_succ]
                refine wpAnyH_done (by kernel_rfl) ?_ _
                go_wp2_with fail
                go_meet
                case rel => exact ⟨_, _, _, _, _, _, rfl, rfl, HPB.out.1, HPB.out.2⟩
              · skip
                go_simp
                refine hK.out _ _ (HY2.out.alloc HY2.out.size (.cells #[.int .i64 0, .int .i64 0, .slice none 0 0] 24)) (fun _ => ?_)
                clear hK K
                try simp only [Act.put, List.setIfInBounds_toArray, List.set_cons_zero, List.set_cons_succ]
                refine wpAnyH_ready (rs := [4]) (by kernel_rfl) (by simp) ?_
                refine AllReadyH.cons (o := ⟨some 87, _, _, _, _, _⟩) rfl (fun K hK => ?_) AllReadyH.nil
                go_simp
                refine (HML.out _ f1 f2 (ty_later HT12.out ((Below.refl _ _).alloc (Nat.le_refl _) _)) (ty_later HT2.out ((Below.refl _ _).alloc (Nat.le_refl _) _))).mono ?_
                rintro e y3 ⟨km, nm, mm, am, cm, hv, rfl, ht, hb⟩
                rw [H8.out.1]
                have HY3 := Lib.hid (Go.RowKit.Below.tr (HY2.out.alloc HY2.out.size (.cells #[.int .i64 0, .int .i64 0, .slice none 0 0] 24)) hb (Nat.le_refl _))
                have HK3 := Lib.hid hb
                have HV3 := Lib.hid hv
                have HT3 := Lib.hid ht
                clear hb hv ht
                dsimp only
                refine hK.out _ _ HY3.out (fun _ => ?_)
                clear hK K
                try simp only [Act.put, List.setIfInBounds_toArray, List.set_cons_zero, List.set_cons_succ]
                refine wpAnyH_take (i := 5) (oi := ⟨some 82, _, _, _, _, _⟩) (v := ?_) rfl (by kernel_rfl) (by kernel_rfl) (by kernel_rfl) (fun _ _ _ h => h) (Or.inl ⟨by rfl, ?_⟩) HY3.out ?_
                rotate_left
                · (intro xx hSw; obtain ⟨⟨c0, c1, c2⟩, ⟨d0, d1, d2⟩, ⟨e0, e1, e2⟩, ⟨g0, g1, g2⟩, -⟩ := HCELL.out _ hSw; go_simp; (try with_reducible rfl))
                try simp only [Act.put, List.setIfInBounds_toArray, List.set_cons_zero, List.set_cons_succ]
                refine wpAnyH_take (i := 6) (oi := ⟨some 88, _, _, _, _, _⟩) (v := ?_) rfl (by kernel_rfl) (by kernel_rfl) (by kernel_rfl) (fun _ _ _ h => h) (Or.inl ⟨by rfl, ?_⟩) HY3.out ?_
                rotate_left
                · (intro xx hSw; obtain ⟨⟨c0, c1, c2⟩, ⟨d0, d1, d2⟩, ⟨e0, e1, e2⟩, ⟨g0, g1, g2⟩, -⟩ := HCELL.out _ hSw; go_simp; (try with_reducible rfl))
                try simp only [Act.put, List.setIfInBounds_toArray, List.set_cons_zero, List.set_cons_succ]
                refine wpAnyH_take (i := 7) (oi := ⟨some 89, _, _, _, _, _⟩) (v := ?_) rfl (by kernel_rfl) (by kernel_rfl) (by kernel_rfl) (fun _ _ _ h => h) (Or.inl ⟨by rfl, ?_⟩) HY3.out ?_
                rotate_left
                · (intro xx hSw; obtain ⟨⟨c0, c1, c2⟩, ⟨d0, d1, d2⟩, ⟨e0, e1, e2⟩, ⟨g0, g1, g2⟩, -⟩ := HCELL.out _ hSw; go_simp; (try with_reducible rfl))
                try simp only [Act.put, List.setIfInBounds_toArray, List.set_cons_zero, List.set_cons_succ]
                have hz : y3.heap[y2.heap.size]? = some (.cells #[.int .i64 0, .int .i64 0, .slice none 0 0] 24 (0, 0)) := (HK3.out.block _ (by simp)).trans (World.alloc_heap_new y2 _)
                have hle := HY2.out.size
                have hty := HT3.out
                have hbe := HY3.out
                have hpb := put_box HV3.out (Mt_kids _ _) hz hty hbe hle rfl
                obtain ⟨z0, z1, z2, z3, z4, z5⟩ := zero_facts hz
                have HPB := Lib.hid hpb
                clear hz hle hty hbe
                refine wpAnyH_ready (rs := [9]) (by kernel_rfl) (by simp) ?_
                refine AllReadyH.cons (o := ⟨none, _, _, _, _, _⟩) rfl (fun K hK => ?_) AllReadyH.nil
                go_simp
                refine hK.out _ _ hpb.2 (fun _ => ?_)
                clear hK K
                try simp only [Act.put, List.setIfInBounds_toArray, List.set_cons_zero, List.set_cons_succ]
                refine wpAnyH_take (i := 10) (oi := ⟨some 19, _, _, _, _, _⟩) (v := ?_) rfl (by kernel_rfl) (by kernel_rfl) (by kernel_rfl) (fun _ _ _ h => h) (Or.inl ⟨by rfl, ?_⟩) hpb.2 ?_
                rotate_left
                · (intro xx hSw; obtain ⟨⟨c0, c1, c2⟩, ⟨d0, d1, d2⟩, ⟨e0, e1, e2⟩, ⟨g0, g1, g2⟩, -⟩ := HCELL.out _ hSw; go_simp; (try with_reducible rfl))
                try simp only [Act.put, List.setIfInBounds_toArray, List.set_cons_zero, List.set_cons_succ]
                refine wpAnyH_done (by kernel_rfl) ?_ _
                go_wp2_with fail
                go_meet
                case rel => exact ⟨_, _, _, _, _, _, rfl, rfl, HPB.out.1, HPB.out.2⟩
            · skip
              go_simp
              refine hK.out _ _ (HY1.out.alloc HY1.out.size (.cells #[.int .i64 0, .int .i64 0, .slice none 0 0] 24)) (fun _ => ?_)
              clear hK K
              try simp only [Act.put, List.setIfInBounds_toArray, List.set_cons_zero, List.set_cons_succ]
              refine wpAnyH_ready (rs := [3]) (by kernel_rfl) (by simp) ?_
              refine AllReadyH.cons (o := ⟨some 86, _, _, _, _, _⟩) rfl (fun K hK => ?_) AllReadyH.nil
              go_simp
              refine (HLB.out _ (HY1.out.alloc HY1.out.size (.cells #[.int .i64 0, .int .i64 0, .slice none 0 0] 24))).mono ?_
              rintro e y2 ⟨f2, rfl, ht, hb⟩
              have HY2 := Lib.hid (Go.RowKit.Below.tr (HY1.out.alloc HY1.out.size (.cells #[.int .i64 0, .int .i64 0, .slice none 0 0] 24)) hb (Nat.le_refl _))
              have HK2 := Lib.hid hb
              have HT2 := Lib.hid ht
              have HT12 := Lib.hid (ty_later (ty_later HT1.out ((Below.refl _ _).alloc (Nat.le_refl _) _)) hb)
              clear hb ht
              dsimp only
              refine hK.out _ _ HY2.out (fun _ => ?_)
              clear hK K
              try simp only [Act.put, List.setIfInBounds_toArray, List.set_cons_zero, List.set_cons_succ]
              refine wpAnyH_ready (rs := [4]) (by kernel_rfl) (by simp) ?_
              refine AllReadyH.cons (o := ⟨some 87, _, _, _, _, _⟩) rfl (fun K hK => ?_) AllReadyH.nil
              go_simp
              refine (HML.out _ f1 f2 HT12.out HT2.out).mono ?_
              rintro e y3 ⟨km, nm, mm, am, cm, hv, rfl, ht, hb⟩
              rw [H8.out.1]
              have HY3 := Lib.hid (Go.RowKit.Below.tr HY2.out hb (Nat.le_refl _))
              have HK3 := Lib.hid hb
              have HV3 := Lib.hid hv
              have HT3 := Lib.hid ht
              clear hb hv ht
              dsimp only
              refine hK.out _ _ HY3.out (fun _ => ?_)
              clear hK K
              try simp only [Act.put, List.setIfInBounds_toArray, List.set_cons_zero, List.set_cons_succ]
              refine wpAnyH_take (i := 5) (oi := ⟨some 82, _, _, _, _, _⟩) (v := ?_) rfl (by kernel_rfl) (by kernel_rfl) (by kernel_rfl) (fun _ _ _ h => h) (Or.inl ⟨by rfl, ?_⟩) HY3.out ?_
              rotate_left
              · (intro xx hSw; obtain ⟨⟨c0, c1, c2⟩, ⟨d0, d1, d2⟩, ⟨e0, e1, e2⟩, ⟨g0, g1, g2⟩, -⟩ := HCELL.out _ hSw; go_simp; (try with_reducible rfl))
              try simp only [Act.put, List.setIfInBounds_toArray, List.set_cons_zero, List.set_cons_succ]
              refine wpAnyH_take (i := 6) (oi := ⟨some 88, _, _, _, _, _⟩) (v := ?_) rfl (by kernel_rfl) (by kernel_rfl) (by kernel_rfl) (fun _ _ _ h => h) (Or.inl ⟨by rfl, ?_⟩) HY3.out ?_
              rotate_left
              · (intro xx hSw; obtain ⟨⟨c0, c1, c2⟩, ⟨d0, d1, d2⟩, ⟨e0, e1, e2⟩, ⟨g0, g1, g2⟩, -⟩ := HCELL.out _ hSw; go_simp; (try with_reducible rfl))
              try simp only [Act.put, List.setIfInBounds_toArray, List.set_cons_zero, List.set_cons_succ]
              refine wpAnyH_take (i := 7) (oi := ⟨some 89, _, _, _, _, _⟩) (v := ?_) rfl (by kernel_rfl) (by kernel_rfl) (by kernel_rfl) (fun _ _ _ h => h) (Or.inl ⟨by rfl, ?_⟩) HY3.out ?_
              rotate_left
              · (intro xx hSw; obtain ⟨⟨c0, c1, c2⟩, ⟨d0, d1, d2⟩, ⟨e0, e1, e2⟩, ⟨g0, g1, g2⟩, -⟩ := HCELL.out _ hSw; go_simp; (try with_reducible rfl))
              try simp only [Act.put, List.setIfInBounds_toArray, List.set_cons_zero, List.set_cons_succ]
              have hz : y3.heap[y1.heap.size]? = some (.cells #[.int .i64 0, .int .i64 0, .slice none 0 0] 24 (0, 0)) := (HK3.out.block _ (Nat.lt_of_lt_of_le (by simp) HK2.out.size)).trans ((HK2.out.block _ (by simp)).trans (World.alloc_heap_new y1 _))
              have hle := HY1.out.size
              have hty := HT3.out
              have hbe := HY3.out
              have hpb := put_box HV3.out (Mt_kids _ _) hz hty hbe hle rfl
              obtain ⟨z0, z1, z2, z3, z4, z5⟩ := zero_facts hz
              have HPB := Lib.hid hpb
              clear hz hle hty hbe
              refine wpAnyH_ready (rs := [9]) (by kernel_rfl) (by simp) ?_
              refine AllReadyH.cons (o := ⟨none, _, _, _, _, _⟩) rfl (fun K hK => ?_) AllReadyH.nil
              go_simp
              refine hK.out _ _ hpb.2 (fun _ => ?_)
              clear hK K
              try simp only [Act.put, List.setIfInBounds_toArray, List.set_cons_zero, List.set_cons_succ]
              refine wpAnyH_take (i := 10) (oi := ⟨some 19, _, _, _, _, _⟩) (v := ?_) rfl (by kernel_rfl) (by kernel_rfl) (by kernel_rfl) (fun _ _ _ h => h) (Or.inl ⟨by rfl, ?_⟩) hpb.2 ?_
              rotate_left
              · (intro xx hSw; obtain ⟨⟨c0, c1, c2⟩, ⟨d0, d1, d2⟩, ⟨e0, e1, e2⟩, ⟨g0, g1, g2⟩, -⟩ := HCELL.out _ hSw; go_simp; (try with_reducible rfl))
              try simp only [Act.put, List.setIfInBounds_toArray, List.set_cons_zero, List.set_cons_succ]
              refine wpAnyH_done (by kernel_rfl) ?_ _
              go_wp2_with fail
              go_meet
              case rel => exact ⟨_, _, _, _, _, _, rfl, rfl, HPB.out.1, HPB.out.2⟩
          · skip
            go_simp
            refine hK.out _ _ (HBD.out.alloc HBD.out.size (.cells #[.int .i64 0, .int .i64 0, .slice none 0 0] 24)) (fun _ => ?_)
            clear hK K
            try simp only [Act.put, List.setIfInBounds_toArray, List.set_cons_zero, List.set_cons_succ]
            refine wpAnyH_ready (rs := [1]) (by kernel_rfl) (by simp) ?_
            refine AllReadyH.cons (o := ⟨some 84, _, _, _, _, _⟩) rfl (fun K hK => ?_) AllReadyH.nil
            go_simp
            refine (HLA.out _ (HBD.out.alloc HBD.out.size (.cells #[.int .i64 0, .int .i64 0, .slice none 0 0] 24))).mono ?_
            rintro e y1 ⟨f1, rfl, ht, hb⟩
            have HY1 := Lib.hid (Go.RowKit.Below.tr (HBD.out.alloc HBD.out.size (.cells #[.int .i64 0, .int .i64 0, .slice none 0 0] 24)) hb (Nat.le_refl _))
            have HK1 := Lib.hid hb
            have HT1 := Lib.hid ht
            clear hb ht
            dsimp only
            refine hK.out _ _ HY1.out (fun _ => ?_)
            clear hK K
            try simp only [Act.put, List.setIfInBounds_toArray, List.set_cons_zero, List.set_cons_succ]
            refine wpAnyH_ready (rs := [3]) (by kernel_rfl) (by simp) ?_
            refine AllReadyH.cons (o := ⟨some 86, _, _, _, _, _⟩) rfl (fun K hK => ?_) AllReadyH.nil
            go_simp
            refine (HLB.out _ HY1.out).mono ?_
            rintro e y2 ⟨f2, rfl, ht, hb⟩
            have HY2 := Lib.hid (Go.RowKit.Below.tr HY1.out hb (Nat.le_refl _))
            have HK2 := Lib.hid hb
            have HT2 := Lib.hid ht
            have HT12 := Lib.hid (ty_later HT1.out hb)
            clear hb ht
            dsimp only
            refine hK.out _ _ HY2.out (fun _ => ?_)
            clear hK K
            try simp only [Act.put, List.setIfInBounds_toArray, List.set_cons_zero, List.set_cons_succ]
            refine wpAnyH_ready (rs := [4]) (by kernel_rfl) (by simp) ?_
            refine AllReadyH.cons (o := ⟨some 87, _, _, _, _, _⟩) rfl (fun K hK => ?_) AllReadyH.nil
            go_simp
            refine (HML.out _ f1 f2 HT12.out HT2.out).mono ?_
            rintro e y3 ⟨km, nm, mm, am, cm, hv, rfl, ht, hb⟩
            rw [H8.out.1]
            have HY3 := Lib.hid (Go.RowKit.Below.tr HY2.out hb (Nat.le_refl _))
            have HK3 := Lib.hid hb
            have HV3 := Lib.hid hv
            have HT3 := Lib.hid ht
            clear hb hv ht
            dsimp only
            refine hK.out _ _ HY3.out (fun _ => ?_)
            clear hK K
            try simp only [Act.put, List.setIfInBounds_toArray, List.set_cons_zero, List.set_cons_succ]
            refine wpAnyH_take (i := 5) (oi := ⟨some 82, _, _, _, _, _⟩) (v := ?_) rfl (by kernel_rfl) (by kernel_rfl) (by kernel_rfl) (fun _ _ _ h => h) (Or.inl ⟨by rfl, ?_⟩) HY3.out ?_
            rotate_left
            · (intro xx hSw; obtain ⟨⟨c0, c1, c2⟩, ⟨d0, d1, d2⟩, ⟨e0, e1, e2⟩, ⟨g0, g1, g2⟩, -⟩ := HCELL.out _ hSw; go_simp; (try with_reducible rfl))
            try simp only [Act.put, List.setIfInBounds_toArray, List.set_cons_zero, List.set_cons_succ]
            refine wpAnyH_take (i := 6) (oi := ⟨some 88, _, _, _, _, _⟩) (v := ?_) rfl (by kernel_rfl) (by kernel_rfl) (by kernel_rfl) (fun _ _ _ h => h) (Or.inl ⟨by rfl, ?_⟩) HY3.out ?_
            rotate_left
            · (intro xx hSw; obtain ⟨⟨c0, c1, c2⟩, ⟨d0, d1, d2⟩, ⟨e0, e1, e2⟩, ⟨g0, g1, g2⟩, -⟩ := HCELL.out _ hSw; go_simp; (try with_reducible rfl))
            try simp only [Act.put, List.setIfInBounds_toArray, List.set_cons_zero, List.set_cons_succ]
            refine wpAnyH_take (i := 7) (oi := ⟨some 89, _, _, _, _, _⟩) (v := ?_) rfl (by kernel_rfl) (by kernel_rfl) (by kernel_rfl) (fun _ _ _ h => h) (Or.inl ⟨by rfl, ?_⟩) HY3.out ?_
            rotate_left
            · (intro xx hSw; obtain ⟨⟨c0, c1, c2⟩, ⟨d0, d1, d2⟩, ⟨e0, e1, e2⟩, ⟨g0, g1, g2⟩, -⟩ := HCELL.out _ hSw; go_simp; (try with_reducible rfl))
            try simp only [Act.put, List.setIfInBounds_toArray, List.set_cons_zero, List.set_cons_succ]
            have hz : y3.heap[wr.heap.size]? = some (.cells #[.int .i64 0, .int .i64 0, .slice none 0 0] 24 (0, 0)) := (HK3.out.block _ (Nat.lt_of_lt_of_le (Nat.lt_of_lt_of_le (by simp) HK1.out.size) HK2.out.size)).trans ((HK2.out.block _ (Nat.lt_of_lt_of_le (by simp) HK1.out.size)).trans ((HK1.out.block _ (by simp)).trans (World.alloc_heap_new wr.drew _)))
            have hle : W9.heap.size ≤ wr.heap.size := HBR.out.size
            have hty := HT3.out
            have hbe := HY3.out
            have hpb := put_box HV3.out (Mt_kids _ _) hz hty hbe hle rfl
            obtain ⟨z0, z1, z2, z3, z4, z5⟩ := zero_facts hz
            have HPB := Lib.hid hpb
            clear hz hle hty hbe
            refine wpAnyH_ready (rs := [9]) (by kernel_rfl) (by simp) ?_
            refine AllReadyH.cons (o := ⟨none, _, _, _, _, _⟩) rfl (fun K hK => ?_) AllReadyH.nil
            go_simp
            refine hK.out _ _ hpb.2 (fun _ => ?_)
            clear hK K
            try simp only [Act.put, List.setIfInBounds_toArray, List.set_cons_zero, List.set_cons_succ]
            refine wpAnyH_take (i := 10) (oi := ⟨some 19, _, _, _, _, _⟩) (v := ?_) rfl (by kernel_rfl) (by kernel_rfl) (by kernel_rfl) (fun _ _ _ h => h) (Or.inl ⟨by rfl, ?_⟩) hpb.2 ?_
            rotate_left
            · (intro xx hSw; obtain ⟨⟨c0, c1, c2⟩, ⟨d0, d1, d2⟩, ⟨e0, e1, e2⟩, ⟨g0, g1, g2⟩, -⟩ := HCELL.out _ hSw; go_simp; (try with_reducible rfl))
            try simp only [Act.put, List.setIfInBounds_toArray, List.set_cons_zero, List.set_cons_succ]
            refine wpAnyH_done (by kernel_rfl) ?_ _
            go_wp2_with fail
            go_meet
            case rel => exact ⟨_, _, _, _, _, _, rfl, rfl, HPB.out.1, HPB.out.2⟩
        case rest =>
        obtain ⟨bb, km, nm, mm, am, cm, rfl, rfl, hbox, hb⟩ := hcut
        have BK := Lib.hid hbox; have HBE := Lib.hid hb
        clear hbox hb
        have L := fun x (h : Below wc.heap.size wc x) => HBE.out.tr h (Nat.le_refl _)
        have HAC := Lib.hid (fun x (h : Below wc.heap.size wc x) => ag_any (w := x) (BX9.out.later (L x h)).says (BP9.out.later (L x h)).says (BX9.out.later (L x h)).ty (BP9.out.later (L x h)).ty HST.out HSP.out)
        have HLM := Lib.hid (fun x (h : Below wc.heap.size wc x) => list_ty (BM9.out.later (L x h)).says (BM9.out.later (L x h)).ty)
        have HSX := Lib.hid (fun x g (h : Below wc.heap.size wc x) (ht : TyAt (LT x.heap.size) x (.mk 8 0 [Mt t p]) (some ⟨g, 0, none⟩) 1) => ks_any (w := x) (u := .mk 8 0 [Mt t p]) (k' := 8) (n' := 0) (m' := 1) (BK.out.later h).says ⟨rfl, rfl, rfl⟩ (BK.out.later h).ty ht)
        have HP7 := Lib.hid (fun x (h : Below wc.heap.size wc x) => two_ty 7 (i64_nat (by decide) (by decide)) (BX9.out.later (L x h)).says (BU9.out.later (L x h)).says (BX9.out.later (L x h)).ty (BU9.out.later (L x h)).ty)
        have HP9 := Lib.hid (fun x (h : Below wc.heap.size wc x) => two_ty 9 (i64_nat (by decide) (by decide)) (BX9.out.later (L x h)).says (BU9.out.later (L x h)).says (BX9.out.later (L x h)).ty (BU9.out.later (L x h)).ty)
        have HAPF := Lib.hid (fun (x : World) g g' (ht : TyAt (LT x.heap.size) x (.mk 7 0 [t, u]) (some ⟨g, 0, none⟩) 2) (ht' : TyAt (LT x.heap.size) x (.mk 9 0 [t, u]) (some ⟨g', 0, none⟩) 2) => ag_any (w := x) (t := .mk 7 0 [t, u]) (u := .mk 9 0 [t, u]) (k := 7) (n := 0) (m := 2) (k' := 9) (n' := 0) (m' := 2) ⟨rfl, rfl, rfl⟩ ⟨rfl, rfl, rfl⟩ ht ht' (two_sz (by have := HSZ.out; omega)) (two_sz (by have := HSZ.out; omega)))
        have HLT := Lib.hid (fun x (h : Below wc.heap.size wc x) => list_ty (BX9.out.later (L x h)).says (BX9.out.later (L x h)).ty)
        have HLF := Lib.hid (fun x (_ : Below wc.heap.size wc x) => leaf_any 1 x)
        have HALI := Lib.hid (fun (x : World) g (ht : TyAt (LT x.heap.size) x (.mk 8 0 [t]) (some ⟨g, 0, none⟩) 1) => ag_any (w := x) (t := .mk 8 0 [t]) (u := .mk 1 0 []) (k := 8) (n := 0) (m := 1) (k' := 1) (n' := 0) (m' := 0) (a' := none) (c' := 0) ⟨rfl, rfl, rfl⟩ ⟨rfl, rfl, rfl⟩ ht (leaf_at (i64_nat (by decide) (by decide))) (list_sz (by have := HSZ.out; omega)) (by simp [Tp.size, Tp.sizes]))
        rw [HO1.out] at HAC
        rw [unlike_ok (by decide) (by decide) (by decide)] at HAPF HALI
        have HCE := Lib.hid (fun x (h : Below wc.heap.size wc x) => And.intro (BK.out.later h).cells (HCELL.out x (L x h)))
        have HWAK := Lib.hid (fun x (_ : Below wc.heap.size wc x) => wakes_any x)
        have HBf := Lib.hid (Below.refl wc.heap.size wc).drew
        clear L
        go_upto_region 14 with fail
        cases o1 with
        | false =>
          obtain ⟨⟨l0, l1, l2⟩, ⟨c0, c1, c2⟩, ⟨d0, d1, d2⟩, ⟨e0, e1, e2⟩, ⟨g0, g1, g2⟩, ⟨h0, h1, h2⟩, ⟨j0, j1, j2⟩⟩ := HCE.out _ HBf.out
          refine wp_region_seq [(0, false), (0, false), (0, false), (0, true), (0, false), (0, false), (0, false), (0, false), (0, false), (0, false), (0, false), (0, true), (0, true), (0, false), (0, false), (0, false), (0, false), (0, false), (1, false), (1, false), (0, true), (0, true), (0, true), (0, false), (0, false), (0, false), (0, false), (0, true), (0, true), (0, true), (0, false), (0, false), (0, false), (0, true), (0, false), (0, false)] (by kernel_rfl) (by kernel_rfl) (by kernel_rfl) (fun _ _ _ d _ h => by cases d <;> exact h) ?_
          repeat
            first
            | (first | with_reducible refine sp0 (fun K hK => ?_) | with_reducible refine sp1 (fun K hK => ?_) | with_reducible refine sp2 (fun K hK => ?_) | with_reducible refine sp3 (fun K hK => ?_) | with_reducible refine sp4 (fun K hK => ?_)
               go_simp
               first
               | (with_reducible refine hK _ _ ?_; clear hK K)
               | (with_reducible apply Exists.intro
                  refine ⟨fun x hx => ?_, hK _ _ ?_⟩
                  first
                    | (with_reducible exact rfl)
                    | (have y0 := keepc hx l0; have y1 := keepc hx l1; have y2 := keepc hx l2; have y3 := keepc hx c0; have y4 := keepc hx c1; have y5 := keepc hx c2; have y6 := keepc hx d0; have y7 := keepc hx d1; have y8 := keepc hx d2; have y9 := keepc hx e0; have y10 := keepc hx e1; have y11 := keepc hx e2; have y12 := keepc hx g0; have y13 := keepc hx g1; have y14 := keepc hx g2; have y15 := keepc hx h0; have y16 := keepc hx h1; have y17 := keepc hx h2; have y18 := keepc hx j0; have y19 := keepc hx j1; have y20 := keepc hx j2; go_simp; done)
                    | (have y0 := keepc hx l0; have y1 := keepc hx l1; have y2 := keepc hx l2; have y3 := keepc hx c0; have y4 := keepc hx c1; have y5 := keepc hx c2; have y6 := keepc hx d0; have y7 := keepc hx d1; have y8 := keepc hx d2; have y9 := keepc hx e0; have y10 := keepc hx e1; have y11 := keepc hx e2; have y12 := keepc hx g0; have y13 := keepc hx g1; have y14 := keepc hx g2; have y15 := keepc hx h0; have y16 := keepc hx h1; have y17 := keepc hx h2; have y18 := keepc hx j0; have y19 := keepc hx j1; have y20 := keepc hx j2; go_simp; with_reducible exact rfl)
                  clear hK K))
            | (first | with_reducible refine sk0 ?_ (fun K hK => ?_) | with_reducible refine sk1 ?_ (fun K hK => ?_) | with_reducible refine sk2 ?_ (fun K hK => ?_) | with_reducible refine sk3 ?_ (fun K hK => ?_) | with_reducible refine sk4 ?_ (fun K hK => ?_)
               rfl
               go_simp
               with_reducible refine hK _ _ ?_
               clear hK K)
          first | with_reducible refine sc0 (fun K hK => ?_) | with_reducible refine sc1 (fun K hK => ?_) | with_reducible refine sc2 (fun K hK => ?_) | with_reducible refine sc3 (fun K hK => ?_) | with_reducible refine sc4 (fun K hK => ?_)
          go_simp
          refine (HAC.out _ HBf.out).mono ?_
          clear l0 l1 l2 c0 c1 c2 d0 d1 d2 e0 e1 e2 g0 g1 g2 h0 h1 h2 j0 j1 j2
          rintro e x1 ⟨rfl, hb⟩
          have HX1 := Lib.hid (HBf.out.tr hb (Nat.le_refl _))
          obtain ⟨⟨l0, l1, l2⟩, ⟨c0, c1, c2⟩, ⟨d0, d1, d2⟩, ⟨e0, e1, e2⟩, ⟨g0, g1, g2⟩, ⟨h0, h1, h2⟩, ⟨j0, j1, j2⟩⟩ := HCE.out x1 HX1.out
          refine ⟨hb, hK _ _ ?_⟩
          clear hK K
          clear hb
          repeat
            first
            | (first | with_reducible refine sp0 (fun K hK => ?_) | with_reducible refine sp1 (fun K hK => ?_) | with_reducible refine sp2 (fun K hK => ?_) | with_reducible refine sp3 (fun K hK => ?_) | with_reducible refine sp4 (fun K hK => ?_)
               go_simp
               first
               | (with_reducible refine hK _ _ ?_; clear hK K)
               | (with_reducible apply Exists.intro
                  refine ⟨fun x hx => ?_, hK _ _ ?_⟩
                  first
                    | (with_reducible exact rfl)
                    | (have y0 := keepc hx l0; have y1 := keepc hx l1; have y2 := keepc hx l2; have y3 := keepc hx c0; have y4 := keepc hx c1; have y5 := keepc hx c2; have y6 := keepc hx d0; have y7 := keepc hx d1; have y8 := keepc hx d2; have y9 := keepc hx e0; have y10 := keepc hx e1; have y11 := keepc hx e2; have y12 := keepc hx g0; have y13 := keepc hx g1; have y14 := keepc hx g2; have y15 := keepc hx h0; have y16 := keepc hx h1; have y17 := keepc hx h2; have y18 := keepc hx j0; have y19 := keepc hx j1; have y20 := keepc hx j2; go_simp; done)
                    | (have y0 := keepc hx l0; have y1 := keepc hx l1; have y2 := keepc hx l2; have y3 := keepc hx c0; have y4 := keepc hx c1; have y5 := keepc hx c2; have y6 := keepc hx d0; have y7 := keepc hx d1; have y8 := keepc hx d2; have y9 := keepc hx e0; have y10 := keepc hx e1; have y11 := keepc hx e2; have y12 := keepc hx g0; have y13 := keepc hx g1; have y14 := keepc hx g2; have y15 := keepc hx h0; have y16 := keepc hx h1; have y17 := keepc hx h2; have y18 := keepc hx j0; have y19 := keepc hx j1; have y20 := keepc hx j2; go_simp; with_reducible exact rfl)
                  clear hK K))
            | (first | with_reducible refine sk0 ?_ (fun K hK => ?_) | with_reducible refine sk1 ?_ (fun K hK => ?_) | with_reducible refine sk2 ?_ (fun K hK => ?_) | with_reducible refine sk3 ?_ (fun K hK => ?_) | with_reducible refine sk4 ?_ (fun K hK => ?_)
               rfl
               go_simp
               with_reducible refine hK _ _ ?_
               clear hK K)
          first | with_reducible refine sc0 (fun K hK => ?_) | with_reducible refine sc1 (fun K hK => ?_) | with_reducible refine sc2 (fun K hK => ?_) | with_reducible refine sc3 (fun K hK => ?_) | with_reducible refine sc4 (fun K hK => ?_)
          go_simp
          refine (HP7.out _ HX1.out).mono ?_
          clear l0 l1 l2 c0 c1 c2 d0 d1 d2 e0 e1 e2 g0 g1 g2 h0 h1 h2 j0 j1 j2
          rintro e x2 ⟨fa, rfl, ht, hb⟩
          have HX2 := Lib.hid (HX1.out.tr hb (Nat.le_refl _))
          have HTA := Lib.hid ht
          clear ht
          obtain ⟨⟨l0, l1, l2⟩, ⟨c0, c1, c2⟩, ⟨d0, d1, d2⟩, ⟨e0, e1, e2⟩, ⟨g0, g1, g2⟩, ⟨h0, h1, h2⟩, ⟨j0, j1, j2⟩⟩ := HCE.out x2 HX2.out
          refine ⟨hb, hK _ _ ?_⟩
          clear hK K
          clear hb
          repeat
            first
            | (first | with_reducible refine sp0 (fun K hK => ?_) | with_reducible refine sp1 (fun K hK => ?_) | with_reducible refine sp2 (fun K hK => ?_) | with_reducible refine sp3 (fun K hK => ?_) | with_reducible refine sp4 (fun K hK => ?_)
               go_simp
               first
               | (with_reducible refine hK _ _ ?_; clear hK K)
               | (with_reducible apply Exists.intro
                  refine ⟨fun x hx => ?_, hK _ _ ?_⟩
                  first
                    | (with_reducible exact rfl)
                    | (have y0 := keepc hx l0; have y1 := keepc hx l1; have y2 := keepc hx l2; have y3 := keepc hx c0; have y4 := keepc hx c1; have y5 := keepc hx c2; have y6 := keepc hx d0; have y7 := keepc hx d1; have y8 := keepc hx d2; have y9 := keepc hx e0; have y10 := keepc hx e1; have y11 := keepc hx e2; have y12 := keepc hx g0; have y13 := keepc hx g1; have y14 := keepc hx g2; have y15 := keepc hx h0; have y16 := keepc hx h1; have y17 := keepc hx h2; have y18 := keepc hx j0; have y19 := keepc hx j1; have y20 := keepc hx j2; go_simp; done)
                    | (have y0 := keepc hx l0; have y1 := keepc hx l1; have y2 := keepc hx l2; have y3 := keepc hx c0; have y4 := keepc hx c1; have y5 := keepc hx c2; have y6 := keepc hx d0; have y7 := keepc hx d1; have y8 := keepc hx d2; have y9 := keepc hx e0; have y10 := keepc hx e1; have y11 := keepc hx e2; have y12 := keepc hx g0; have y13 := keepc hx g1; have y14 := keepc hx g2; have y15 := keepc hx h0; have y16 := keepc hx h1; have y17 := keepc hx h2; have y18 := keepc hx j0; have y19 := keepc hx j1; have y20 := keepc hx j2; go_simp; with_reducible exact rfl)
                  clear hK K))
            | (first | with_reducible refine sk0 ?_ (fun K hK => ?_) | with_reducible refine sk1 ?_ (fun K hK => ?_) | with_reducible refine sk2 ?_ (fun K hK => ?_) | with_reducible refine sk3 ?_ (fun K hK => ?_) | with_reducible refine sk4 ?_ (fun K hK => ?_)
               rfl
               go_simp
               with_reducible refine hK _ _ ?_
               clear hK K)
          first | with_reducible refine sc0 (fun K hK => ?_) | with_reducible refine sc1 (fun K hK => ?_) | with_reducible refine sc2 (fun K hK => ?_) | with_reducible refine sc3 (fun K hK => ?_) | with_reducible refine sc4 (fun K hK => ?_)
          go_simp
          refine (HP9.out _ HX2.out).mono ?_
          clear l0 l1 l2 c0 c1 c2 d0 d1 d2 e0 e1 e2 g0 g1 g2 h0 h1 h2 j0 j1 j2
          rintro e x3 ⟨fb, rfl, ht, hb⟩
          have HX3 := Lib.hid (HX2.out.tr hb (Nat.le_refl _))
          have HTB := Lib.hid ht
          have HTA2 := Lib.hid (ty_later HTA.out hb)
          clear ht
          obtain ⟨⟨l0, l1, l2⟩, ⟨c0, c1, c2⟩, ⟨d0, d1, d2⟩, ⟨e0, e1, e2⟩, ⟨g0, g1, g2⟩, ⟨h0, h1, h2⟩, ⟨j0, j1, j2⟩⟩ := HCE.out x3 HX3.out
          refine ⟨hb, hK _ _ ?_⟩
          clear hK K
          clear hb
          repeat
            first
            | (first | with_reducible refine sp0 (fun K hK => ?_) | with_reducible refine sp1 (fun K hK => ?_) | with_reducible refine sp2 (fun K hK => ?_) | with_reducible refine sp3 (fun K hK => ?_) | with_reducible refine sp4 (fun K hK => ?_)
               go_simp
               first
               | (with_reducible refine hK _ _ ?_; clear hK K)
               | (with_reducible apply Exists.intro
                  refine ⟨fun x hx => ?_, hK _ _ ?_⟩
                  first
                    | (with_reducible exact rfl)
                    | (have y0 := keepc hx l0; have y1 := keepc hx l1; have y2 := keepc hx l2; have y3 := keepc hx c0; have y4 := keepc hx c1; have y5 := keepc hx c2; have y6 := keepc hx d0; have y7 := keepc hx d1; have y8 := keepc hx d2; have y9 := keepc hx e0; have y10 := keepc hx e1; have y11 := keepc hx e2; have y12 := keepc hx g0; have y13 := keepc hx g1; have y14 := keepc hx g2; have y15 := keepc hx h0; have y16 := keepc hx h1; have y17 := keepc hx h2; have y18 := keepc hx j0; have y19 := keepc hx j1; have y20 := keepc hx j2; go_simp; done)
                    | (have y0 := keepc hx l0; have y1 := keepc hx l1; have y2 := keepc hx l2; have y3 := keepc hx c0; have y4 := keepc hx c1; have y5 := keepc hx c2; have y6 := keepc hx d0; have y7 := keepc hx d1; have y8 := keepc hx d2; have y9 := keepc hx e0; have y10 := keepc hx e1; have y11 := keepc hx e2; have y12 := keepc hx g0; have y13 := keepc hx g1; have y14 := keepc hx g2; have y15 := keepc hx h0; have y16 := keepc hx h1; have y17 := keepc hx h2; have y18 := keepc hx j0; have y19 := keepc hx j1; have y20 := keepc hx j2; go_simp; with_reducible exact rfl)
                  clear hK K))
            | (first | with_reducible refine sk0 ?_ (fun K hK => ?_) | with_reducible refine sk1 ?_ (fun K hK => ?_) | with_reducible refine sk2 ?_ (fun K hK => ?_) | with_reducible refine sk3 ?_ (fun K hK => ?_) | with_reducible refine sk4 ?_ (fun K hK => ?_)
               rfl
               go_simp
               with_reducible refine hK _ _ ?_
               clear hK K)
          first | with_reducible refine sc0 (fun K hK => ?_) | with_reducible refine sc1 (fun K hK => ?_) | with_reducible refine sc2 (fun K hK => ?_) | with_reducible refine sc3 (fun K hK => ?_) | with_reducible refine sc4 (fun K hK => ?_)
          go_simp
          refine (HAPF.out _ fa fb HTA2.out HTB.out).mono ?_
          clear l0 l1 l2 c0 c1 c2 d0 d1 d2 e0 e1 e2 g0 g1 g2 h0 h1 h2 j0 j1 j2
          rintro e x4 ⟨rfl, hb⟩
          have HX4 := Lib.hid (HX3.out.tr hb (Nat.le_refl _))
          obtain ⟨⟨l0, l1, l2⟩, ⟨c0, c1, c2⟩, ⟨d0, d1, d2⟩, ⟨e0, e1, e2⟩, ⟨g0, g1, g2⟩, ⟨h0, h1, h2⟩, ⟨j0, j1, j2⟩⟩ := HCE.out x4 HX4.out
          refine ⟨hb, hK _ _ ?_⟩
          clear hK K
          clear hb
          repeat
            first
            | (first | with_reducible refine sp0 (fun K hK => ?_) | with_reducible refine sp1 (fun K hK => ?_) | with_reducible refine sp2 (fun K hK => ?_) | with_reducible refine sp3 (fun K hK => ?_) | with_reducible refine sp4 (fun K hK => ?_)
               go_simp
               first
               | (with_reducible refine hK _ _ ?_; clear hK K)
               | (with_reducible apply Exists.intro
                  refine ⟨fun x hx => ?_, hK _ _ ?_⟩
                  first
                    | (with_reducible exact rfl)
                    | (have y0 := keepc hx l0; have y1 := keepc hx l1; have y2 := keepc hx l2; have y3 := keepc hx c0; have y4 := keepc hx c1; have y5 := keepc hx c2; have y6 := keepc hx d0; have y7 := keepc hx d1; have y8 := keepc hx d2; have y9 := keepc hx e0; have y10 := keepc hx e1; have y11 := keepc hx e2; have y12 := keepc hx g0; have y13 := keepc hx g1; have y14 := keepc hx g2; have y15 := keepc hx h0; have y16 := keepc hx h1; have y17 := keepc hx h2; have y18 := keepc hx j0; have y19 := keepc hx j1; have y20 := keepc hx j2; go_simp; done)
                    | (have y0 := keepc hx l0; have y1 := keepc hx l1; have y2 := keepc hx l2; have y3 := keepc hx c0; have y4 := keepc hx c1; have y5 := keepc hx c2; have y6 := keepc hx d0; have y7 := keepc hx d1; have y8 := keepc hx d2; have y9 := keepc hx e0; have y10 := keepc hx e1; have y11 := keepc hx e2; have y12 := keepc hx g0; have y13 := keepc hx g1; have y14 := keepc hx g2; have y15 := keepc hx h0; have y16 := keepc hx h1; have y17 := keepc hx h2; have y18 := keepc hx j0; have y19 := keepc hx j1; have y20 := keepc hx j2; go_simp; with_reducible exact rfl)
                  clear hK K))
            | (first | with_reducible refine sk0 ?_ (fun K hK => ?_) | with_reducible refine sk1 ?_ (fun K hK => ?_) | with_reducible refine sk2 ?_ (fun K hK => ?_) | with_reducible refine sk3 ?_ (fun K hK => ?_) | with_reducible refine sk4 ?_ (fun K hK => ?_)
               rfl
               go_simp
               with_reducible refine hK _ _ ?_
               clear hK K)
          first | with_reducible refine sc0 (fun K hK => ?_) | with_reducible refine sc1 (fun K hK => ?_) | with_reducible refine sc2 (fun K hK => ?_) | with_reducible refine sc3 (fun K hK => ?_) | with_reducible refine sc4 (fun K hK => ?_)
          go_simp
          refine (HLT.out _ HX4.out).mono ?_
          clear l0 l1 l2 c0 c1 c2 d0 d1 d2 e0 e1 e2 g0 g1 g2 h0 h1 h2 j0 j1 j2
          rintro e x5 ⟨fc, rfl, ht, hb⟩
          have HX5 := Lib.hid (HX4.out.tr hb (Nat.le_refl _))
          have HTC := Lib.hid ht
          clear ht
          obtain ⟨⟨l0, l1, l2⟩, ⟨c0, c1, c2⟩, ⟨d0, d1, d2⟩, ⟨e0, e1, e2⟩, ⟨g0, g1, g2⟩, ⟨h0, h1, h2⟩, ⟨j0, j1, j2⟩⟩ := HCE.out x5 HX5.out
          refine ⟨hb, hK _ _ ?_⟩
          clear hK K
          clear hb
          repeat
            first
            | (first | with_reducible refine sp0 (fun K hK => ?_) | with_reducible refine sp1 (fun K hK => ?_) | with_reducible refine sp2 (fun K hK => ?_) | with_reducible refine sp3 (fun K hK => ?_) | with_reducible refine sp4 (fun K hK => ?_)
               go_simp
               first
               | (with_reducible refine hK _ _ ?_; clear hK K)
               | (with_reducible apply Exists.intro
                  refine ⟨fun x hx => ?_, hK _ _ ?_⟩
                  first
                    | (with_reducible exact rfl)
                    | (have y0 := keepc hx l0; have y1 := keepc hx l1; have y2 := keepc hx l2; have y3 := keepc hx c0; have y4 := keepc hx c1; have y5 := keepc hx c2; have y6 := keepc hx d0; have y7 := keepc hx d1; have y8 := keepc hx d2; have y9 := keepc hx e0; have y10 := keepc hx e1; have y11 := keepc hx e2; have y12 := keepc hx g0; have y13 := keepc hx g1; have y14 := keepc hx g2; have y15 := keepc hx h0; have y16 := keepc hx h1; have y17 := keepc hx h2; have y18 := keepc hx j0; have y19 := keepc hx j1; have y20 := keepc hx j2; go_simp; done)
                    | (have y0 := keepc hx l0; have y1 := keepc hx l1; have y2 := keepc hx l2; have y3 := keepc hx c0; have y4 := keepc hx c1; have y5 := keepc hx c2; have y6 := keepc hx d0; have y7 := keepc hx d1; have y8 := keepc hx d2; have y9 := keepc hx e0; have y10 := keepc hx e1; have y11 := keepc hx e2; have y12 := keepc hx g0; have y13 := keepc hx g1; have y14 := keepc hx g2; have y15 := keepc hx h0; have y16 := keepc hx h1; have y17 := keepc hx h2; have y18 := keepc hx j0; have y19 := keepc hx j1; have y20 := keepc hx j2; go_simp; with_reducible exact rfl)
                  clear hK K))
            | (first | with_reducible refine sk0 ?_ (fun K hK => ?_) | with_reducible refine sk1 ?_ (fun K hK => ?_) | with_reducible refine sk2 ?_ (fun K hK => ?_) | with_reducible refine sk3 ?_ (fun K hK => ?_) | with_reducible refine sk4 ?_ (fun K hK => ?_)
               rfl
               go_simp
               with_reducible refine hK _ _ ?_
               clear hK K)
          first | with_reducible refine sc0 (fun K hK => ?_) | with_reducible refine sc1 (fun K hK => ?_) | with_reducible refine sc2 (fun K hK => ?_) | with_reducible refine sc3 (fun K hK => ?_) | with_reducible refine sc4 (fun K hK => ?_)
          go_simp
          refine (HLF.out _ HX5.out).mono ?_
          clear l0 l1 l2 c0 c1 c2 d0 d1 d2 e0 e1 e2 g0 g1 g2 h0 h1 h2 j0 j1 j2
          rintro e x6 ⟨rfl, hb⟩
          have HX6 := Lib.hid (HX5.out.tr hb (Nat.le_refl _))
          have HTC2 := Lib.hid (ty_later HTC.out hb)
          obtain ⟨⟨l0, l1, l2⟩, ⟨c0, c1, c2⟩, ⟨d0, d1, d2⟩, ⟨e0, e1, e2⟩, ⟨g0, g1, g2⟩, ⟨h0, h1, h2⟩, ⟨j0, j1, j2⟩⟩ := HCE.out x6 HX6.out
          refine ⟨hb, hK _ _ ?_⟩
          clear hK K
          clear hb
          repeat
            first
            | (first | with_reducible refine sp0 (fun K hK => ?_) | with_reducible refine sp1 (fun K hK => ?_) | with_reducible refine sp2 (fun K hK => ?_) | with_reducible refine sp3 (fun K hK => ?_) | with_reducible refine sp4 (fun K hK => ?_)
               go_simp
               first
               | (with_reducible refine hK _ _ ?_; clear hK K)
               | (with_reducible apply Exists.intro
                  refine ⟨fun x hx => ?_, hK _ _ ?_⟩
                  first
                    | (with_reducible exact rfl)
                    | (have y0 := keepc hx l0; have y1 := keepc hx l1; have y2 := keepc hx l2; have y3 := keepc hx c0; have y4 := keepc hx c1; have y5 := keepc hx c2; have y6 := keepc hx d0; have y7 := keepc hx d1; have y8 := keepc hx d2; have y9 := keepc hx e0; have y10 := keepc hx e1; have y11 := keepc hx e2; have y12 := keepc hx g0; have y13 := keepc hx g1; have y14 := keepc hx g2; have y15 := keepc hx h0; have y16 := keepc hx h1; have y17 := keepc hx h2; have y18 := keepc hx j0; have y19 := keepc hx j1; have y20 := keepc hx j2; go_simp; done)
                    | (have y0 := keepc hx l0; have y1 := keepc hx l1; have y2 := keepc hx l2; have y3 := keepc hx c0; have y4 := keepc hx c1; have y5 := keepc hx c2; have y6 := keepc hx d0; have y7 := keepc hx d1; have y8 := keepc hx d2; have y9 := keepc hx e0; have y10 := keepc hx e1; have y11 := keepc hx e2; have y12 := keepc hx g0; have y13 := keepc hx g1; have y14 := keepc hx g2; have y15 := keepc hx h0; have y16 := keepc hx h1; have y17 := keepc hx h2; have y18 := keepc hx j0; have y19 := keepc hx j1; have y20 := keepc hx j2; go_simp; with_reducible exact rfl)
                  clear hK K))
            | (first | with_reducible refine sk0 ?_ (fun K hK => ?_) | with_reducible refine sk1 ?_ (fun K hK => ?_) | with_reducible refine sk2 ?_ (fun K hK => ?_) | with_reducible refine sk3 ?_ (fun K hK => ?_) | with_reducible refine sk4 ?_ (fun K hK => ?_)
               rfl
               go_simp
               with_reducible refine hK _ _ ?_
               clear hK K)
          first | with_reducible refine sc0 (fun K hK => ?_) | with_reducible refine sc1 (fun K hK => ?_) | with_reducible refine sc2 (fun K hK => ?_) | with_reducible refine sc3 (fun K hK => ?_) | with_reducible refine sc4 (fun K hK => ?_)
          go_simp
          refine (HALI.out _ fc HTC2.out).mono ?_
          clear l0 l1 l2 c0 c1 c2 d0 d1 d2 e0 e1 e2 g0 g1 g2 h0 h1 h2 j0 j1 j2
          rintro e x7 ⟨rfl, hb⟩
          have HX7 := Lib.hid (HX6.out.tr hb (Nat.le_refl _))
          obtain ⟨⟨l0, l1, l2⟩, ⟨c0, c1, c2⟩, ⟨d0, d1, d2⟩, ⟨e0, e1, e2⟩, ⟨g0, g1, g2⟩, ⟨h0, h1, h2⟩, ⟨j0, j1, j2⟩⟩ := HCE.out x7 HX7.out
          refine ⟨hb, hK _ _ ?_⟩
          clear hK K
          clear hb
          repeat
            first
            | (first | with_reducible refine sp0 (fun K hK => ?_) | with_reducible refine sp1 (fun K hK => ?_) | with_reducible refine sp2 (fun K hK => ?_) | with_reducible refine sp3 (fun K hK => ?_) | with_reducible refine sp4 (fun K hK => ?_)
               go_simp
               first
               | (with_reducible refine hK _ _ ?_; clear hK K)
               | (with_reducible apply Exists.intro
                  refine ⟨fun x hx => ?_, hK _ _ ?_⟩
                  first
                    | (with_reducible exact rfl)
                    | (have y0 := keepc hx l0; have y1 := keepc hx l1; have y2 := keepc hx l2; have y3 := keepc hx c0; have y4 := keepc hx c1; have y5 := keepc hx c2; have y6 := keepc hx d0; have y7 := keepc hx d1; have y8 := keepc hx d2; have y9 := keepc hx e0; have y10 := keepc hx e1; have y11 := keepc hx e2; have y12 := keepc hx g0; have y13 := keepc hx g1; have y14 := keepc hx g2; have y15 := keepc hx h0; have y16 := keepc hx h1; have y17 := keepc hx h2; have y18 := keepc hx j0; have y19 := keepc hx j1; have y20 := keepc hx j2; go_simp; done)
                    | (have y0 := keepc hx l0; have y1 := keepc hx l1; have y2 := keepc hx l2; have y3 := keepc hx c0; have y4 := keepc hx c1; have y5 := keepc hx c2; have y6 := keepc hx d0; have y7 := keepc hx d1; have y8 := keepc hx d2; have y9 := keepc hx e0; have y10 := keepc hx e1; have y11 := keepc hx e2; have y12 := keepc hx g0; have y13 := keepc hx g1; have y14 := keepc hx g2; have y15 := keepc hx h0; have y16 := keepc hx h1; have y17 := keepc hx h2; have y18 := keepc hx j0; have y19 := keepc hx j1; have y20 := keepc hx j2; go_simp; with_reducible exact rfl)
                  clear hK K))
            | (first | with_reducible refine sk0 ?_ (fun K hK => ?_) | with_reducible refine sk1 ?_ (fun K hK => ?_) | with_reducible refine sk2 ?_ (fun K hK => ?_) | with_reducible refine sk3 ?_ (fun K hK => ?_) | with_reducible refine sk4 ?_ (fun K hK => ?_)
               rfl
               go_simp
               with_reducible refine hK _ _ ?_
               clear hK K)
          first | with_reducible refine sc0 (fun K hK => ?_) | with_reducible refine sc1 (fun K hK => ?_) | with_reducible refine sc2 (fun K hK => ?_) | with_reducible refine sc3 (fun K hK => ?_) | with_reducible refine sc4 (fun K hK => ?_)
          go_simp
          refine (HWAK.out _ HX7.out).mono ?_
          clear l0 l1 l2 c0 c1 c2 d0 d1 d2 e0 e1 e2 g0 g1 g2 h0 h1 h2 j0 j1 j2
          rintro e x8 ⟨rfl, hb⟩
          have HX8 := Lib.hid (HX7.out.tr hb (Nat.le_refl _))
          obtain ⟨⟨l0, l1, l2⟩, ⟨c0, c1, c2⟩, ⟨d0, d1, d2⟩, ⟨e0, e1, e2⟩, ⟨g0, g1, g2⟩, ⟨h0, h1, h2⟩, ⟨j0, j1, j2⟩⟩ := HCE.out x8 HX8.out
          refine ⟨hb, hK _ _ ?_⟩
          clear hK K
          clear hb
          repeat
            first
            | (first | with_reducible refine sp0 (fun K hK => ?_) | with_reducible refine sp1 (fun K hK => ?_) | with_reducible refine sp2 (fun K hK => ?_) | with_reducible refine sp3 (fun K hK => ?_) | with_reducible refine sp4 (fun K hK => ?_)
               go_simp
               first
               | (with_reducible refine hK _ _ ?_; clear hK K)
               | (with_reducible apply Exists.intro
                  refine ⟨fun x hx => ?_, hK _ _ ?_⟩
                  first
                    | (with_reducible exact rfl)
                    | (have y0 := keepc hx l0; have y1 := keepc hx l1; have y2 := keepc hx l2; have y3 := keepc hx c0; have y4 := keepc hx c1; have y5 := keepc hx c2; have y6 := keepc hx d0; have y7 := keepc hx d1; have y8 := keepc hx d2; have y9 := keepc hx e0; have y10 := keepc hx e1; have y11 := keepc hx e2; have y12 := keepc hx g0; have y13 := keepc hx g1; have y14 := keepc hx g2; have y15 := keepc hx h0; have y16 := keepc hx h1; have y17 := keepc hx h2; have y18 := keepc hx j0; have y19 := keepc hx j1; have y20 := keepc hx j2; go_simp; done)
                    | (have y0 := keepc hx l0; have y1 := keepc hx l1; have y2 := keepc hx l2; have y3 := keepc hx c0; have y4 := keepc hx c1; have y5 := keepc hx c2; have y6 := keepc hx d0; have y7 := keepc hx d1; have y8 := keepc hx d2; have y9 := keepc hx e0; have y10 := keepc hx e1; have y11 := keepc hx e2; have y12 := keepc hx g0; have y13 := keepc hx g1; have y14 := keepc hx g2; have y15 := keepc hx h0; have y16 := keepc hx h1; have y17 := keepc hx h2; have y18 := keepc hx j0; have y19 := keepc hx j1; have y20 := keepc hx j2; go_simp; with_reducible exact rfl)
                  clear hK K))
            | (first | with_reducible refine sk0 ?_ (fun K hK => ?_) | with_reducible refine sk1 ?_ (fun K hK => ?_) | with_reducible refine sk2 ?_ (fun K hK => ?_) | with_reducible refine sk3 ?_ (fun K hK => ?_) | with_reducible refine sk4 ?_ (fun K hK => ?_)
               rfl
               go_simp
               with_reducible refine hK _ _ ?_
               clear hK K)
          with_reducible refine seq_nil ?_
          clear l0 l1 l2 c0 c1 c2 d0 d1 d2 e0 e1 e2 g0 g1 g2 h0 h1 h2 j0 j1 j2
          go_wp2_with fail
          go_ret
          exact ⟨rfl, HB9.out.tr (HBE.out.tr HX8.out (Nat.le_refl _)) (Nat.le_refl _)⟩
        | true =>
          have hsame : Tp.same (Mt (.mk 8 0 [t]) (.mk 8 0 [p])) (.mk 8 0 [Mt t p]) = true := by rw [H8.out.2 rfl]; exact Tp.same_refl _
          rw [hsame] at HSX
          clear hsame
          obtain ⟨⟨l0, l1, l2⟩, ⟨c0, c1, c2⟩, ⟨d0, d1, d2⟩, ⟨e0, e1, e2⟩, ⟨g0, g1, g2⟩, ⟨h0, h1, h2⟩, ⟨j0, j1, j2⟩⟩ := HCE.out _ HBf.out
          refine wp_region_seq [(0, false), (0, false), (0, false), (0, true), (0, false), (0, false), (0, false), (0, false), (0, false), (0, false), (0, false), (0, true), (0, true), (0, false), (0, false), (0, false), (0, false), (0, false), (1, false), (1, false), (0, true), (0, true), (0, true), (0, false), (0, false), (0, false), (0, false), (0, true), (0, true), (0, true), (0, false), (0, false), (0, false), (0, true), (0, false), (0, false)] (by kernel_rfl) (by kernel_rfl) (by kernel_rfl) (fun _ _ _ d _ h => by cases d <;> exact h) ?_
          repeat
            first
            | (first | with_reducible refine sp0 (fun K hK => ?_) | with_reducible refine sp1 (fun K hK => ?_) | with_reducible refine sp2 (fun K hK => ?_) | with_reducible refine sp3 (fun K hK => ?_) | with_reducible refine sp4 (fun K hK => ?_)
               go_simp
               first
               | (with_reducible refine hK _ _ ?_; clear hK K)
               | (with_reducible apply Exists.intro
                  refine ⟨fun x hx => ?_, hK _ _ ?_⟩
                  first
                    | (with_reducible exact rfl)
                    | (have y0 := keepc hx l0; have y1 := keepc hx l1; have y2 := keepc hx l2; have y3 := keepc hx c0; have y4 := keepc hx c1; have y5 := keepc hx c2; have y6 := keepc hx d0; have y7 := keepc hx d1; have y8 := keepc hx d2; have y9 := keepc hx e0; have y10 := keepc hx e1; have y11 := keepc hx e2; have y12 := keepc hx g0; have y13 := keepc hx g1; have y14 := keepc hx g2; have y15 := keepc hx h0; have y16 := keepc hx h1; have y17 := keepc hx h2; have y18 := keepc hx j0; have y19 := keepc hx j1; have y20 := keepc hx j2; go_simp; done)
                    | (have y0 := keepc hx l0; have y1 := keepc hx l1; have y2 := keepc hx l2; have y3 := keepc hx c0; have y4 := keepc hx c1; have y5 := keepc hx c2; have y6 := keepc hx d0; have y7 := keepc hx d1; have y8 := keepc hx d2; have y9 := keepc hx e0; have y10 := keepc hx e1; have y11 := keepc hx e2; have y12 := keepc hx g0; have y13 := keepc hx g1; have y14 := keepc hx g2; have y15 := keepc hx h0; have y16 := keepc hx h1; have y17 := keepc hx h2; have y18 := keepc hx j0; have y19 := keepc hx j1; have y20 := keepc hx j2; go_simp; with_reducible exact rfl)
                  clear hK K))
            | (first | with_reducible refine sk0 ?_ (fun K hK => ?_) | with_reducible refine sk1 ?_ (fun K hK => ?_) | with_reducible refine sk2 ?_ (fun K hK => ?_) | with_reducible refine sk3 ?_ (fun K hK => ?_) | with_reducible refine sk4 ?_ (fun K hK => ?_)
               rfl
               go_simp
               with_reducible refine hK _ _ ?_
               clear hK K)
          first | with_reducible refine sc0 (fun K hK => ?_) | with_reducible refine sc1 (fun K hK => ?_) | with_reducible refine sc2 (fun K hK => ?_) | with_reducible refine sc3 (fun K hK => ?_) | with_reducible refine sc4 (fun K hK => ?_)
          go_simp
          refine (HAC.out _ HBf.out).mono ?_
          clear l0 l1 l2 c0 c1 c2 d0 d1 d2 e0 e1 e2 g0 g1 g2 h0 h1 h2 j0 j1 j2
          rintro e x1 ⟨rfl, hb⟩
          have HX1 := Lib.hid (HBf.out.tr hb (Nat.le_refl _))
          obtain ⟨⟨l0, l1, l2⟩, ⟨c0, c1, c2⟩, ⟨d0, d1, d2⟩, ⟨e0, e1, e2⟩, ⟨g0, g1, g2⟩, ⟨h0, h1, h2⟩, ⟨j0, j1, j2⟩⟩ := HCE.out x1 HX1.out
          refine ⟨hb, hK _ _ ?_⟩
          clear hK K
          clear hb
          repeat
            first
            | (first | with_reducible refine sp0 (fun K hK => ?_) | with_reducible refine sp1 (fun K hK => ?_) | with_reducible refine sp2 (fun K hK => ?_) | with_reducible refine sp3 (fun K hK => ?_) | with_reducible refine sp4 (fun K hK => ?_)
               go_simp
               first
               | (with_reducible refine hK _ _ ?_; clear hK K)
               | (with_reducible apply Exists.intro
                  refine ⟨fun x hx => ?_, hK _ _ ?_⟩
                  first
                    | (with_reducible exact rfl)
                    | (have y0 := keepc hx l0; have y1 := keepc hx l1; have y2 := keepc hx l2; have y3 := keepc hx c0; have y4 := keepc hx c1; have y5 := keepc hx c2; have y6 := keepc hx d0; have y7 := keepc hx d1; have y8 := keepc hx d2; have y9 := keepc hx e0; have y10 := keepc hx e1; have y11 := keepc hx e2; have y12 := keepc hx g0; have y13 := keepc hx g1; have y14 := keepc hx g2; have y15 := keepc hx h0; have y16 := keepc hx h1; have y17 := keepc hx h2; have y18 := keepc hx j0; have y19 := keepc hx j1; have y20 := keepc hx j2; go_simp; done)
                    | (have y0 := keepc hx l0; have y1 := keepc hx l1; have y2 := keepc hx l2; have y3 := keepc hx c0; have y4 := keepc hx c1; have y5 := keepc hx c2; have y6 := keepc hx d0; have y7 := keepc hx d1; have y8 := keepc hx d2; have y9 := keepc hx e0; have y10 := keepc hx e1; have y11 := keepc hx e2; have y12 := keepc hx g0; have y13 := keepc hx g1; have y14 := keepc hx g2; have y15 := keepc hx h0; have y16 := keepc hx h1; have y17 := keepc hx h2; have y18 := keepc hx j0; have y19 := keepc hx j1; have y20 := keepc hx j2; go_simp; with_reducible exact rfl)
                  clear hK K))
            | (first | with_reducible refine sk0 ?_ (fun K hK => ?_) | with_reducible refine sk1 ?_ (fun K hK => ?_) | with_reducible refine sk2 ?_ (fun K hK => ?_) | with_reducible refine sk3 ?_ (fun K hK => ?_) | with_reducible refine sk4 ?_ (fun K hK => ?_)
               rfl
               go_simp
               with_reducible refine hK _ _ ?_
               clear hK K)
          first | with_reducible refine sc0 (fun K hK => ?_) | with_reducible refine sc1 (fun K hK => ?_) | with_reducible refine sc2 (fun K hK => ?_) | with_reducible refine sc3 (fun K hK => ?_) | with_reducible refine sc4 (fun K hK => ?_)
          go_simp
          refine (HLM.out _ HX1.out).mono ?_
          clear l0 l1 l2 c0 c1 c2 d0 d1 d2 e0 e1 e2 g0 g1 g2 h0 h1 h2 j0 j1 j2
          rintro e x2 ⟨f, rfl, ht, hb⟩
          have HX2 := Lib.hid (HX1.out.tr hb (Nat.le_refl _))
          have HTL := Lib.hid ht
          clear ht
          obtain ⟨⟨l0, l1, l2⟩, ⟨c0, c1, c2⟩, ⟨d0, d1, d2⟩, ⟨e0, e1, e2⟩, ⟨g0, g1, g2⟩, ⟨h0, h1, h2⟩, ⟨j0, j1, j2⟩⟩ := HCE.out x2 HX2.out
          refine ⟨hb, hK _ _ ?_⟩
          clear hK K
          clear hb
          repeat
            first
            | (first | with_reducible refine sp0 (fun K hK => ?_) | with_reducible refine sp1 (fun K hK => ?_) | with_reducible refine sp2 (fun K hK => ?_) | with_reducible refine sp3 (fun K hK => ?_) | with_reducible refine sp4 (fun K hK => ?_)
               go_simp
               first
               | (with_reducible refine hK _ _ ?_; clear hK K)
               | (with_reducible apply Exists.intro
                  refine ⟨fun x hx => ?_, hK _ _ ?_⟩
                  first
                    | (with_reducible exact rfl)
                    | (have y0 := keepc hx l0; have y1 := keepc hx l1; have y2 := keepc hx l2; have y3 := keepc hx c0; have y4 := keepc hx c1; have y5 := keepc hx c2; have y6 := keepc hx d0; have y7 := keepc hx d1; have y8 := keepc hx d2; have y9 := keepc hx e0; have y10 := keepc hx e1; have y11 := keepc hx e2; have y12 := keepc hx g0; have y13 := keepc hx g1; have y14 := keepc hx g2; have y15 := keepc hx h0; have y16 := keepc hx h1; have y17 := keepc hx h2; have y18 := keepc hx j0; have y19 := keepc hx j1; have y20 := keepc hx j2; go_simp; done)
                    | (have y0 := keepc hx l0; have y1 := keepc hx l1; have y2 := keepc hx l2; have y3 := keepc hx c0; have y4 := keepc hx c1; have y5 := keepc hx c2; have y6 := keepc hx d0; have y7 := keepc hx d1; have y8 := keepc hx d2; have y9 := keepc hx e0; have y10 := keepc hx e1; have y11 := keepc hx e2; have y12 := keepc hx g0; have y13 := keepc hx g1; have y14 := keepc hx g2; have y15 := keepc hx h0; have y16 := keepc hx h1; have y17 := keepc hx h2; have y18 := keepc hx j0; have y19 := keepc hx j1; have y20 := keepc hx j2; go_simp; with_reducible exact rfl)
                  clear hK K))
            | (first | with_reducible refine sk0 ?_ (fun K hK => ?_) | with_reducible refine sk1 ?_ (fun K hK => ?_) | with_reducible refine sk2 ?_ (fun K hK => ?_) | with_reducible refine sk3 ?_ (fun K hK => ?_) | with_reducible refine sk4 ?_ (fun K hK => ?_)
               rfl
               go_simp
               with_reducible refine hK _ _ ?_
               clear hK K)
          first | with_reducible refine sc0 (fun K hK => ?_) | with_reducible refine sc1 (fun K hK => ?_) | with_reducible refine sc2 (fun K hK => ?_) | with_reducible refine sc3 (fun K hK => ?_) | with_reducible refine sc4 (fun K hK => ?_)
          go_simp
          refine (HSX.out _ f HX2.out HTL.out).mono ?_
          clear l0 l1 l2 c0 c1 c2 d0 d1 d2 e0 e1 e2 g0 g1 g2 h0 h1 h2 j0 j1 j2
          rintro e x3 ⟨rfl, hb⟩
          have HX3 := Lib.hid (HX2.out.tr hb (Nat.le_refl _))
          obtain ⟨⟨l0, l1, l2⟩, ⟨c0, c1, c2⟩, ⟨d0, d1, d2⟩, ⟨e0, e1, e2⟩, ⟨g0, g1, g2⟩, ⟨h0, h1, h2⟩, ⟨j0, j1, j2⟩⟩ := HCE.out x3 HX3.out
          refine ⟨hb, hK _ _ ?_⟩
          clear hK K
          clear hb
          repeat
            first
            | (first | with_reducible refine sp0 (fun K hK => ?_) | with_reducible refine sp1 (fun K hK => ?_) | with_reducible refine sp2 (fun K hK => ?_) | with_reducible refine sp3 (fun K hK => ?_) | with_reducible refine sp4 (fun K hK => ?_)
               go_simp
               first
               | (with_reducible refine hK _ _ ?_; clear hK K)
               | (with_reducible apply Exists.intro
                  refine ⟨fun x hx => ?_, hK _ _ ?_⟩
                  first
                    | (with_reducible exact rfl)
                    | (have y0 := keepc hx l0; have y1 := keepc hx l1; have y2 := keepc hx l2; have y3 := keepc hx c0; have y4 := keepc hx c1; have y5 := keepc hx c2; have y6 := keepc hx d0; have y7 := keepc hx d1; have y8 := keepc hx d2; have y9 := keepc hx e0; have y10 := keepc hx e1; have y11 := keepc hx e2; have y12 := keepc hx g0; have y13 := keepc hx g1; have y14 := keepc hx g2; have y15 := keepc hx h0; have y16 := keepc hx h1; have y17 := keepc hx h2; have y18 := keepc hx j0; have y19 := keepc hx j1; have y20 := keepc hx j2; go_simp; done)
                    | (have y0 := keepc hx l0; have y1 := keepc hx l1; have y2 := keepc hx l2; have y3 := keepc hx c0; have y4 := keepc hx c1; have y5 := keepc hx c2; have y6 := keepc hx d0; have y7 := keepc hx d1; have y8 := keepc hx d2; have y9 := keepc hx e0; have y10 := keepc hx e1; have y11 := keepc hx e2; have y12 := keepc hx g0; have y13 := keepc hx g1; have y14 := keepc hx g2; have y15 := keepc hx h0; have y16 := keepc hx h1; have y17 := keepc hx h2; have y18 := keepc hx j0; have y19 := keepc hx j1; have y20 := keepc hx j2; go_simp; with_reducible exact rfl)
                  clear hK K))
            | (first | with_reducible refine sk0 ?_ (fun K hK => ?_) | with_reducible refine sk1 ?_ (fun K hK => ?_) | with_reducible refine sk2 ?_ (fun K hK => ?_) | with_reducible refine sk3 ?_ (fun K hK => ?_) | with_reducible refine sk4 ?_ (fun K hK => ?_)
               rfl
               go_simp
               with_reducible refine hK _ _ ?_
               clear hK K)
          first | with_reducible refine sc0 (fun K hK => ?_) | with_reducible refine sc1 (fun K hK => ?_) | with_reducible refine sc2 (fun K hK => ?_) | with_reducible refine sc3 (fun K hK => ?_) | with_reducible refine sc4 (fun K hK => ?_)
          go_simp
          refine (HP7.out _ HX3.out).mono ?_
          clear l0 l1 l2 c0 c1 c2 d0 d1 d2 e0 e1 e2 g0 g1 g2 h0 h1 h2 j0 j1 j2
          rintro e x4 ⟨fa, rfl, ht, hb⟩
          have HX4 := Lib.hid (HX3.out.tr hb (Nat.le_refl _))
          have HTA := Lib.hid ht
          clear ht
          obtain ⟨⟨l0, l1, l2⟩, ⟨c0, c1, c2⟩, ⟨d0, d1, d2⟩, ⟨e0, e1, e2⟩, ⟨g0, g1, g2⟩, ⟨h0, h1, h2⟩, ⟨j0, j1, j2⟩⟩ := HCE.out x4 HX4.out
          refine ⟨hb, hK _ _ ?_⟩
          clear hK K
          clear hb
          repeat
            first
            | (first | with_reducible refine sp0 (fun K hK => ?_) | with_reducible refine sp1 (fun K hK => ?_) | with_reducible refine sp2 (fun K hK => ?_) | with_reducible refine sp3 (fun K hK => ?_) | with_reducible refine sp4 (fun K hK => ?_)
               go_simp
               first
               | (with_reducible refine hK _ _ ?_; clear hK K)
               | (with_reducible apply Exists.intro
                  refine ⟨fun x hx => ?_, hK _ _ ?_⟩
                  first
                    | (with_reducible exact rfl)
                    | (have y0 := keepc hx l0; have y1 := keepc hx l1; have y2 := keepc hx l2; have y3 := keepc hx c0; have y4 := keepc hx c1; have y5 := keepc hx c2; have y6 := keepc hx d0; have y7 := keepc hx d1; have y8 := keepc hx d2; have y9 := keepc hx e0; have y10 := keepc hx e1; have y11 := keepc hx e2; have y12 := keepc hx g0; have y13 := keepc hx g1; have y14 := keepc hx g2; have y15 := keepc hx h0; have y16 := keepc hx h1; have y17 := keepc hx h2; have y18 := keepc hx j0; have y19 := keepc hx j1; have y20 := keepc hx j2; go_simp; done)
                    | (have y0 := keepc hx l0; have y1 := keepc hx l1; have y2 := keepc hx l2; have y3 := keepc hx c0; have y4 := keepc hx c1; have y5 := keepc hx c2; have y6 := keepc hx d0; have y7 := keepc hx d1; have y8 := keepc hx d2; have y9 := keepc hx e0; have y10 := keepc hx e1; have y11 := keepc hx e2; have y12 := keepc hx g0; have y13 := keepc hx g1; have y14 := keepc hx g2; have y15 := keepc hx h0; have y16 := keepc hx h1; have y17 := keepc hx h2; have y18 := keepc hx j0; have y19 := keepc hx j1; have y20 := keepc hx j2; go_simp; with_reducible exact rfl)
                  clear hK K))
            | (first | with_reducible refine sk0 ?_ (fun K hK => ?_) | with_reducible refine sk1 ?_ (fun K hK => ?_) | with_reducible refine sk2 ?_ (fun K hK => ?_) | with_reducible refine sk3 ?_ (fun K hK => ?_) | with_reducible refine sk4 ?_ (fun K hK => ?_)
               rfl
               go_simp
               with_reducible refine hK _ _ ?_
               clear hK K)
          first | with_reducible refine sc0 (fun K hK => ?_) | with_reducible refine sc1 (fun K hK => ?_) | with_reducible refine sc2 (fun K hK => ?_) | with_reducible refine sc3 (fun K hK => ?_) | with_reducible refine sc4 (fun K hK => ?_)
          go_simp
          refine (HP9.out _ HX4.out).mono ?_
          clear l0 l1 l2 c0 c1 c2 d0 d1 d2 e0 e1 e2 g0 g1 g2 h0 h1 h2 j0 j1 j2
          rintro e x5 ⟨fb, rfl, ht, hb⟩
          have HX5 := Lib.hid (HX4.out.tr hb (Nat.le_refl _))
          have HTB := Lib.hid ht
          have HTA2 := Lib.hid (ty_later HTA.out hb)
          clear ht
          obtain ⟨⟨l0, l1, l2⟩, ⟨c0, c1, c2⟩, ⟨d0, d1, d2⟩, ⟨e0, e1, e2⟩, ⟨g0, g1, g2⟩, ⟨h0, h1, h2⟩, ⟨j0, j1, j2⟩⟩ := HCE.out x5 HX5.out
          refine ⟨hb, hK _ _ ?_⟩
          clear hK K
          clear hb
          repeat
            first
            | (first | with_reducible refine sp0 (fun K hK => ?_) | with_reducible refine sp1 (fun K hK => ?_) | with_reducible refine sp2 (fun K hK => ?_) | with_reducible refine sp3 (fun K hK => ?_) | with_reducible refine sp4 (fun K hK => ?_)
               go_simp
               first
               | (with_reducible refine hK _ _ ?_; clear hK K)
               | (with_reducible apply Exists.intro
                  refine ⟨fun x hx => ?_, hK _ _ ?_⟩
                  first
                    | (with_reducible exact rfl)
                    | (have y0 := keepc hx l0; have y1 := keepc hx l1; have y2 := keepc hx l2; have y3 := keepc hx c0; have y4 := keepc hx c1; have y5 := keepc hx c2; have y6 := keepc hx d0; have y7 := keepc hx d1; have y8 := keepc hx d2; have y9 := keepc hx e0; have y10 := keepc hx e1; have y11 := keepc hx e2; have y12 := keepc hx g0; have y13 := keepc hx g1; have y14 := keepc hx g2; have y15 := keepc hx h0; have y16 := keepc hx h1; have y17 := keepc hx h2; have y18 := keepc hx j0; have y19 := keepc hx j1; have y20 := keepc hx j2; go_simp; done)
                    | (have y0 := keepc hx l0; have y1 := keepc hx l1; have y2 := keepc hx l2; have y3 := keepc hx c0; have y4 := keepc hx c1; have y5 := keepc hx c2; have y6 := keepc hx d0; have y7 := keepc hx d1; have y8 := keepc hx d2; have y9 := keepc hx e0; have y10 := keepc hx e1; have y11 := keepc hx e2; have y12 := keepc hx g0; have y13 := keepc hx g1; have y14 := keepc hx g2; have y15 := keepc hx h0; have y16 := keepc hx h1; have y17 := keepc hx h2; have y18 := keepc hx j0; have y19 := keepc hx j1; have y20 := keepc hx j2; go_simp; with_reducible exact rfl)
                  clear hK K))
            | (first | with_reducible refine sk0 ?_ (fun K hK => ?_) | with_reducible refine sk1 ?_ (fun K hK => ?_) | with_reducible refine sk2 ?_ (fun K hK => ?_) | with_reducible refine sk3 ?_ (fun K hK => ?_) | with_reducible refine sk4 ?_ (fun K hK => ?_)
               rfl
               go_simp
               with_reducible refine hK _ _ ?_
               clear hK K)
          first | with_reducible refine sc0 (fun K hK => ?_) | with_reducible refine sc1 (fun K hK => ?_) | with_reducible refine sc2 (fun K hK => ?_) | with_reducible refine sc3 (fun K hK => ?_) | with_reducible refine sc4 (fun K hK => ?_)
          go_simp
          refine (HAPF.out _ fa fb HTA2.out HTB.out).mono ?_
          clear l0 l1 l2 c0 c1 c2 d0 d1 d2 e0 e1 e2 g0 g1 g2 h0 h1 h2 j0 j1 j2
          rintro e x6 ⟨rfl, hb⟩
          have HX6 := Lib.hid (HX5.out.tr hb (Nat.le_refl _))
          obtain ⟨⟨l0, l1, l2⟩, ⟨c0, c1, c2⟩, ⟨d0, d1, d2⟩, ⟨e0, e1, e2⟩, ⟨g0, g1, g2⟩, ⟨h0, h1, h2⟩, ⟨j0, j1, j2⟩⟩ := HCE.out x6 HX6.out
          refine ⟨hb, hK _ _ ?_⟩
          clear hK K
          clear hb
          repeat
            first
            | (first | with_reducible refine sp0 (fun K hK => ?_) | with_reducible refine sp1 (fun K hK => ?_) | with_reducible refine sp2 (fun K hK => ?_) | with_reducible refine sp3 (fun K hK => ?_) | with_reducible refine sp4 (fun K hK => ?_)
               go_simp
               first
               | (with_reducible refine hK _ _ ?_; clear hK K)
               | (with_reducible apply Exists.intro
                  refine ⟨fun x hx => ?_, hK _ _ ?_⟩
                  first
                    | (with_reducible exact rfl)
                    | (have y0 := keepc hx l0; have y1 := keepc hx l1; have y2 := keepc hx l2; have y3 := keepc hx c0; have y4 := keepc hx c1; have y5 := keepc hx c2; have y6 := keepc hx d0; have y7 := keepc hx d1; have y8 := keepc hx d2; have y9 := keepc hx e0; have y10 := keepc hx e1; have y11 := keepc hx e2; have y12 := keepc hx g0; have y13 := keepc hx g1; have y14 := keepc hx g2; have y15 := keepc hx h0; have y16 := keepc hx h1; have y17 := keepc hx h2; have y18 := keepc hx j0; have y19 := keepc hx j1; have y20 := keepc hx j2; go_simp; done)
                    | (have y0 := keepc hx l0; have y1 := keepc hx l1; have y2 := keepc hx l2; have y3 := keepc hx c0; have y4 := keepc hx c1; have y5 := keepc hx c2; have y6 := keepc hx d0; have y7 := keepc hx d1; have y8 := keepc hx d2; have y9 := keepc hx e0; have y10 := keepc hx e1; have y11 := keepc hx e2; have y12 := keepc hx g0; have y13 := keepc hx g1; have y14 := keepc hx g2; have y15 := keepc hx h0; have y16 := keepc hx h1; have y17 := keepc hx h2; have y18 := keepc hx j0; have y19 := keepc hx j1; have y20 := keepc hx j2; go_simp; with_reducible exact rfl)
                  clear hK K))
            | (first | with_reducible refine sk0 ?_ (fun K hK => ?_) | with_reducible refine sk1 ?_ (fun K hK => ?_) | with_reducible refine sk2 ?_ (fun K hK => ?_) | with_reducible refine sk3 ?_ (fun K hK => ?_) | with_reducible refine sk4 ?_ (fun K hK => ?_)
               rfl
               go_simp
               with_reducible refine hK _ _ ?_
               clear hK K)
          first | with_reducible refine sc0 (fun K hK => ?_) | with_reducible refine sc1 (fun K hK => ?_) | with_reducible refine sc2 (fun K hK => ?_) | with_reducible refine sc3 (fun K hK => ?_) | with_reducible refine sc4 (fun K hK => ?_)
          go_simp
          refine (HLT.out _ HX6.out).mono ?_
          clear l0 l1 l2 c0 c1 c2 d0 d1 d2 e0 e1 e2 g0 g1 g2 h0 h1 h2 j0 j1 j2
          rintro e x7 ⟨fc, rfl, ht, hb⟩
          have HX7 := Lib.hid (HX6.out.tr hb (Nat.le_refl _))
          have HTC := Lib.hid ht
          clear ht
          obtain ⟨⟨l0, l1, l2⟩, ⟨c0, c1, c2⟩, ⟨d0, d1, d2⟩, ⟨e0, e1, e2⟩, ⟨g0, g1, g2⟩, ⟨h0, h1, h2⟩, ⟨j0, j1, j2⟩⟩ := HCE.out x7 HX7.out
          refine ⟨hb, hK _ _ ?_⟩
          clear hK K
          clear hb
          repeat
            first
            | (first | with_reducible refine sp0 (fun K hK => ?_) | with_reducible refine sp1 (fun K hK => ?_) | with_reducible refine sp2 (fun K hK => ?_) | with_reducible refine sp3 (fun K hK => ?_) | with_reducible refine sp4 (fun K hK => ?_)
               go_simp
               first
               | (with_reducible refine hK _ _ ?_; clear hK K)
               | (with_reducible apply Exists.intro
                  refine ⟨fun x hx => ?_, hK _ _ ?_⟩
                  first
                    | (with_reducible exact rfl)
                    | (have y0 := keepc hx l0; have y1 := keepc hx l1; have y2 := keepc hx l2; have y3 := keepc hx c0; have y4 := keepc hx c1; have y5 := keepc hx c2; have y6 := keepc hx d0; have y7 := keepc hx d1; have y8 := keepc hx d2; have y9 := keepc hx e0; have y10 := keepc hx e1; have y11 := keepc hx e2; have y12 := keepc hx g0; have y13 := keepc hx g1; have y14 := keepc hx g2; have y15 := keepc hx h0; have y16 := keepc hx h1; have y17 := keepc hx h2; have y18 := keepc hx j0; have y19 := keepc hx j1; have y20 := keepc hx j2; go_simp; done)
                    | (have y0 := keepc hx l0; have y1 := keepc hx l1; have y2 := keepc hx l2; have y3 := keepc hx c0; have y4 := keepc hx c1; have y5 := keepc hx c2; have y6 := keepc hx d0; have y7 := keepc hx d1; have y8 := keepc hx d2; have y9 := keepc hx e0; have y10 := keepc hx e1; have y11 := keepc hx e2; have y12 := keepc hx g0; have y13 := keepc hx g1; have y14 := keepc hx g2; have y15 := keepc hx h0; have y16 := keepc hx h1; have y17 := keepc hx h2; have y18 := keepc hx j0; have y19 := keepc hx j1; have y20 := keepc hx j2; go_simp; with_reducible exact rfl)
                  clear hK K))
            | (first | with_reducible refine sk0 ?_ (fun K hK => ?_) | with_reducible refine sk1 ?_ (fun K hK => ?_) | with_reducible refine sk2 ?_ (fun K hK => ?_) | with_reducible refine sk3 ?_ (fun K hK => ?_) | with_reducible refine sk4 ?_ (fun K hK => ?_)
               rfl
               go_simp
               with_reducible refine hK _ _ ?_
               clear hK K)
          first | with_reducible refine sc0 (fun K hK => ?_) | with_reducible refine sc1 (fun K hK => ?_) | with_reducible refine sc2 (fun K hK => ?_) | with_reducible refine sc3 (fun K hK => ?_) | with_reducible refine sc4 (fun K hK => ?_)
          go_simp
          refine (HLF.out _ HX7.out).mono ?_
          clear l0 l1 l2 c0 c1 c2 d0 d1 d2 e0 e1 e2 g0 g1 g2 h0 h1 h2 j0 j1 j2
          rintro e x8 ⟨rfl, hb⟩
          have HX8 := Lib.hid (HX7.out.tr hb (Nat.le_refl _))
          have HTC2 := Lib.hid (ty_later HTC.out hb)
          obtain ⟨⟨l0, l1, l2⟩, ⟨c0, c1, c2⟩, ⟨d0, d1, d2⟩, ⟨e0, e1, e2⟩, ⟨g0, g1, g2⟩, ⟨h0, h1, h2⟩, ⟨j0, j1, j2⟩⟩ := HCE.out x8 HX8.out
          refine ⟨hb, hK _ _ ?_⟩
          clear hK K
          clear hb
          repeat
            first
            | (first | with_reducible refine sp0 (fun K hK => ?_) | with_reducible refine sp1 (fun K hK => ?_) | with_reducible refine sp2 (fun K hK => ?_) | with_reducible refine sp3 (fun K hK => ?_) | with_reducible refine sp4 (fun K hK => ?_)
               go_simp
               first
               | (with_reducible refine hK _ _ ?_; clear hK K)
               | (with_reducible apply Exists.intro
                  refine ⟨fun x hx => ?_, hK _ _ ?_⟩
                  first
                    | (with_reducible exact rfl)
                    | (have y0 := keepc hx l0; have y1 := keepc hx l1; have y2 := keepc hx l2; have y3 := keepc hx c0; have y4 := keepc hx c1; have y5 := keepc hx c2; have y6 := keepc hx d0; have y7 := keepc hx d1; have y8 := keepc hx d2; have y9 := keepc hx e0; have y10 := keepc hx e1; have y11 := keepc hx e2; have y12 := keepc hx g0; have y13 := keepc hx g1; have y14 := keepc hx g2; have y15 := keepc hx h0; have y16 := keepc hx h1; have y17 := keepc hx h2; have y18 := keepc hx j0; have y19 := keepc hx j1; have y20 := keepc hx j2; go_simp; done)
                    | (have y0 := keepc hx l0; have y1 := keepc hx l1; have y2 := keepc hx l2; have y3 := keepc hx c0; have y4 := keepc hx c1; have y5 := keepc hx c2; have y6 := keepc hx d0; have y7 := keepc hx d1; have y8 := keepc hx d2; have y9 := keepc hx e0; have y10 := keepc hx e1; have y11 := keepc hx e2; have y12 := keepc hx g0; have y13 := keepc hx g1; have y14 := keepc hx g2; have y15 := keepc hx h0; have y16 := keepc hx h1; have y17 := keepc hx h2; have y18 := keepc hx j0; have y19 := keepc hx j1; have y20 := keepc hx j2; go_simp; with_reducible exact rfl)
                  clear hK K))
            | (first | with_reducible refine sk0 ?_ (fun K hK => ?_) | with_reducible refine sk1 ?_ (fun K hK => ?_) | with_reducible refine sk2 ?_ (fun K hK => ?_) | with_reducible refine sk3 ?_ (fun K hK => ?_) | with_reducible refine sk4 ?_ (fun K hK => ?_)
               rfl
               go_simp
               with_reducible refine hK _ _ ?_
               clear hK K)
          first | with_reducible refine sc0 (fun K hK => ?_) | with_reducible refine sc1 (fun K hK => ?_) | with_reducible refine sc2 (fun K hK => ?_) | with_reducible refine sc3 (fun K hK => ?_) | with_reducible refine sc4 (fun K hK => ?_)
          go_simp
          refine (HALI.out _ fc HTC2.out).mono ?_
          clear l0 l1 l2 c0 c1 c2 d0 d1 d2 e0 e1 e2 g0 g1 g2 h0 h1 h2 j0 j1 j2
          rintro e x9 ⟨rfl, hb⟩
          have HX9 := Lib.hid (HX8.out.tr hb (Nat.le_refl _))
          obtain ⟨⟨l0, l1, l2⟩, ⟨c0, c1, c2⟩, ⟨d0, d1, d2⟩, ⟨e0, e1, e2⟩, ⟨g0, g1, g2⟩, ⟨h0, h1, h2⟩, ⟨j0, j1, j2⟩⟩ := HCE.out x9 HX9.out
          refine ⟨hb, hK _ _ ?_⟩
          clear hK K
          clear hb
          repeat
            first
            | (first | with_reducible refine sp0 (fun K hK => ?_) | with_reducible refine sp1 (fun K hK => ?_) | with_reducible refine sp2 (fun K hK => ?_) | with_reducible refine sp3 (fun K hK => ?_) | with_reducible refine sp4 (fun K hK => ?_)
               go_simp
               first
               | (with_reducible refine hK _ _ ?_; clear hK K)
               | (with_reducible apply Exists.intro
                  refine ⟨fun x hx => ?_, hK _ _ ?_⟩
                  first
                    | (with_reducible exact rfl)
                    | (have y0 := keepc hx l0; have y1 := keepc hx l1; have y2 := keepc hx l2; have y3 := keepc hx c0; have y4 := keepc hx c1; have y5 := keepc hx c2; have y6 := keepc hx d0; have y7 := keepc hx d1; have y8 := keepc hx d2; have y9 := keepc hx e0; have y10 := keepc hx e1; have y11 := keepc hx e2; have y12 := keepc hx g0; have y13 := keepc hx g1; have y14 := keepc hx g2; have y15 := keepc hx h0; have y16 := keepc hx h1; have y17 := keepc hx h2; have y18 := keepc hx j0; have y19 := keepc hx j1; have y20 := keepc hx j2; go_simp; done)
                    | (have y0 := keepc hx l0; have y1 := keepc hx l1; have y2 := keepc hx l2; have y3 := keepc hx c0; have y4 := keepc hx c1; have y5 := keepc hx c2; have y6 := keepc hx d0; have y7 := keepc hx d1; have y8 := keepc hx d2; have y9 := keepc hx e0; have y10 := keepc hx e1; have y11 := keepc hx e2; have y12 := keepc hx g0; have y13 := keepc hx g1; have y14 := keepc hx g2; have y15 := keepc hx h0; have y16 := keepc hx h1; have y17 := keepc hx h2; have y18 := keepc hx j0; have y19 := keepc hx j1; have y20 := keepc hx j2; go_simp; with_reducible exact rfl)
                  clear hK K))
            | (first | with_reducible refine sk0 ?_ (fun K hK => ?_) | with_reducible refine sk1 ?_ (fun K hK => ?_) | with_reducible refine sk2 ?_ (fun K hK => ?_) | with_reducible refine sk3 ?_ (fun K hK => ?_) | with_reducible refine sk4 ?_ (fun K hK => ?_)
               rfl
               go_simp
               with_reducible refine hK _ _ ?_
               clear hK K)
          first | with_reducible refine sc0 (fun K hK => ?_) | with_reducible refine sc1 (fun K hK => ?_) | with_reducible refine sc2 (fun K hK => ?_) | with_reducible refine sc3 (fun K hK => ?_) | with_reducible refine sc4 (fun K hK => ?_)
          go_simp
          refine (HWAK.out _ HX9.out).mono ?_
          clear l0 l1 l2 c0 c1 c2 d0 d1 d2 e0 e1 e2 g0 g1 g2 h0 h1 h2 j0 j1 j2
          rintro e x10 ⟨rfl, hb⟩
          have HX10 := Lib.hid (HX9.out.tr hb (Nat.le_refl _))
          obtain ⟨⟨l0, l1, l2⟩, ⟨c0, c1, c2⟩, ⟨d0, d1, d2⟩, ⟨e0, e1, e2⟩, ⟨g0, g1, g2⟩, ⟨h0, h1, h2⟩, ⟨j0, j1, j2⟩⟩ := HCE.out x10 HX10.out
          refine ⟨hb, hK _ _ ?_⟩
          clear hK K
          clear hb
          repeat
            first
            | (first | with_reducible refine sp0 (fun K hK => ?_) | with_reducible refine sp1 (fun K hK => ?_) | with_reducible refine sp2 (fun K hK => ?_) | with_reducible refine sp3 (fun K hK => ?_) | with_reducible refine sp4 (fun K hK => ?_)
               go_simp
               first
               | (with_reducible refine hK _ _ ?_; clear hK K)
               | (with_reducible apply Exists.intro
                  refine ⟨fun x hx => ?_, hK _ _ ?_⟩
                  first
                    | (with_reducible exact rfl)
                    | (have y0 := keepc hx l0; have y1 := keepc hx l1; have y2 := keepc hx l2; have y3 := keepc hx c0; have y4 := keepc hx c1; have y5 := keepc hx c2; have y6 := keepc hx d0; have y7 := keepc hx d1; have y8 := keepc hx d2; have y9 := keepc hx e0; have y10 := keepc hx e1; have y11 := keepc hx e2; have y12 := keepc hx g0; have y13 := keepc hx g1; have y14 := keepc hx g2; have y15 := keepc hx h0; have y16 := keepc hx h1; have y17 := keepc hx h2; have y18 := keepc hx j0; have y19 := keepc hx j1; have y20 := keepc hx j2; go_simp; done)
                    | (have y0 := keepc hx l0; have y1 := keepc hx l1; have y2 := keepc hx l2; have y3 := keepc hx c0; have y4 := keepc hx c1; have y5 := keepc hx c2; have y6 := keepc hx d0; have y7 := keepc hx d1; have y8 := keepc hx d2; have y9 := keepc hx e0; have y10 := keepc hx e1; have y11 := keepc hx e2; have y12 := keepc hx g0; have y13 := keepc hx g1; have y14 := keepc hx g2; have y15 := keepc hx h0; have y16 := keepc hx h1; have y17 := keepc hx h2; have y18 := keepc hx j0; have y19 := keepc hx j1; have y20 := keepc hx j2; go_simp; with_reducible exact rfl)
                  clear hK K))
            | (first | with_reducible refine sk0 ?_ (fun K hK => ?_) | with_reducible refine sk1 ?_ (fun K hK => ?_) | with_reducible refine sk2 ?_ (fun K hK => ?_) | with_reducible refine sk3 ?_ (fun K hK => ?_) | with_reducible refine sk4 ?_ (fun K hK => ?_)
               rfl
               go_simp
               with_reducible refine hK _ _ ?_
               clear hK K)
          with_reducible refine seq_nil ?_
          clear l0 l1 l2 c0 c1 c2 d0 d1 d2 e0 e1 e2 g0 g1 g2 h0 h1 h2 j0 j1 j2
          go_wp2_with fail
          go_ret
          exact ⟨rfl, HB9.out.tr (HBE.out.tr HX10.out (Nat.le_refl _)) (Nat.le_refl _)⟩
end Go.Proofs.Ytopfdggbkckeoaa

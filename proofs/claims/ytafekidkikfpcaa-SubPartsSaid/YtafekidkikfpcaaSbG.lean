/- The law SubParts: its walk. -/
import Derived.Test.YtafekidkikfpcaaSbK
import Derived.Test.YtafekidkikfpcaaTqS
import Derived.Deep.RegionLaw
import Derived.Deep.DeepCutAuto
import Derived.Deep.CutRange
namespace Go.Proofs.Ytafekidkikfpcaa
open Go Go.RowKit
open Tp (T Md)

theorem row_at4 {H : Nat → Prop} {F : World} {g : Nat} {t u p q : T} {k n k' n' k2 n2 k3 n3 : Int} {m m' m2 m3 : Nat} {a a' a2 a3 : Option Addr} {c c' c2 c3 : Nat} (hv : TV t k n m) (hv' : TV u k' n' m') (hv2 : TV p k2 n2 m2) (hv3 : TV q k3 n3 m3)
    (hg : F.heap[g]? = some (.cells #[.int .i64 k, .int .i64 n, .slice a m c, .int .i64 k', .int .i64 n', .slice a' m' c', .int .i64 k2, .int .i64 n2, .slice a2 m2 c2, .int .i64 k3, .int .i64 n3, .slice a3 m3 c3] 24))
    (hgH : H g) (ht : TyAt H F t a c) (hu : TyAt H F u a' c') (hp : TyAt H F p a2 c2) (hq : TyAt H F q a3 c3) : KidsAt H F [t, u, p, q] (some ⟨g, 0, none⟩) := by
  obtain ⟨rfl, rfl, rfl⟩ := hv
  obtain ⟨rfl, rfl, rfl⟩ := hv'
  obtain ⟨rfl, rfl, rfl⟩ := hv2
  obtain ⟨rfl, rfl, rfl⟩ := hv3
  refine KidsAt.of_nodes hgH [t, u, p, q] 0 (fun i hi => ?_)
  have hi2 : i = 0 ∨ i = 1 ∨ i = 2 ∨ i = 3 := by simp at hi; omega
  rcases hi2 with rfl | rfl | rfl | rfl
  · exact NodeAt.mk' ht (cell_box hg rfl rfl) (cell_box hg rfl rfl) (cell_box hg rfl rfl)
  · exact NodeAt.mk' hu (cell_box hg rfl rfl) (cell_box hg rfl rfl) (cell_box hg rfl rfl)
  · exact NodeAt.mk' hp (cell_box hg rfl rfl) (cell_box hg rfl rfl) (cell_box hg rfl rfl)
  · exact NodeAt.mk' hq (cell_box hg rfl rfl) (cell_box hg rfl rfl) (cell_box hg rfl rfl)
theorem four_right {t u p q : T} (h : (!decide (600 < Tp.sizes [t, u, p, q]) && Tp.rights [t, u, p, q]) = true) : Tp.right t = true ∧ Tp.right u = true ∧ Tp.right p = true ∧ Tp.right q = true ∧ Tp.size t + Tp.size u + Tp.size p + Tp.size q ≤ 600 := by
  by_cases hc : 600 < Tp.sizes [t, u, p, q]
  · rw [decide_eq_true hc] at h; simp at h
  · rw [decide_eq_false hc] at h
    simp only [Bool.not_false, Bool.true_and, Tp.rights, Bool.and_eq_true] at h
    simp only [Tp.sizes] at hc
    exact ⟨h.1, h.2.1, h.2.2.1, h.2.2.2.1, by omega⟩

/-- What a call has built, by letters. -/
theorem two_ty (kk : Int) (hkk : I64 kk) {t u : T} {k n k' n' : Int} {m m' : Nat} {a a' : Option Addr} {c c' : Nat} {w : World} (hv : TV t k n m) (hv' : TV u k' n' m') (ht : TyAt (LT w.heap.size) w t a c) (hu : TyAt (LT w.heap.size) w u a' c') :
    Calls Try.prog 21 #[.int .i64 kk, .agg #[.int .i64 k, .int .i64 n, .slice a m c], .agg #[.int .i64 k', .int .i64 n', .slice a' m' c']] w fun e w' => ∃ g, e = .returned (.agg #[.int .i64 kk, .int .i64 0, .slice (some ⟨g, 0, none⟩) 2 2]) ∧ TyAt (LT w'.heap.size) w' (.mk kk 0 [t, u]) (some ⟨g, 0, none⟩) 2 ∧ Below w.heap.size w w' :=
  two_any kk hkk t k n m a c u k' n' m' a' c' w hv hv' ht hu
theorem list_ty {t : T} {k n : Int} {m : Nat} {a : Option Addr} {c : Nat} {w : World} (hv : TV t k n m) (ht : TyAt (LT w.heap.size) w t a c) :
    Calls Try.prog 22 #[.agg #[.int .i64 k, .int .i64 n, .slice a m c]] w fun e w' => ∃ g, e = .returned (.agg #[.int .i64 8, .int .i64 0, .slice (some ⟨g, 0, none⟩) 1 1]) ∧ TyAt (LT w'.heap.size) w' (.mk 8 0 [t]) (some ⟨g, 0, none⟩) 1 ∧ Below w.heap.size w w' :=
  list_any t k n m a c w hv ht
theorem two_sz {k : Int} {t u : T} (h : Tp.size t + Tp.size u ≤ 600) : Tp.size (.mk k 0 [t, u]) ≤ 10000 := by simp only [Tp.size, Tp.sizes]; omega
theorem list_sz {t : T} (h : Tp.size t ≤ 600) : Tp.size (.mk 8 0 [t]) ≤ 10000 := by simp only [Tp.size, Tp.sizes]; omega


/-- A block of zeros holds no node of right types. -/
theorem KidsAt.miss {G : Nat → Prop} {y : World} {bb : Nat} {ty : TypeId} (hbox : y.heap[bb]? = some (.cells #[.int .i64 0, .int .i64 0, .slice none 0 0] ty (0, 0))) : ∀ (l : List T) (a : Option Addr), Tp.rights l = true → KidsAt G y l a → KidsAt (fun b => G b ∧ b ≠ bb) y l a := by
  have hn : ∀ (sz : Nat), (∀ (t : T) (b o : Nat), Tp.size t ≤ sz → Tp.right t = true → NodeAt G y t b o → b ≠ bb ∧ NodeAt (fun b => G b ∧ b ≠ bb) y t b o) ∧ (∀ (l : List T) (a : Option Addr), Tp.sizes l ≤ sz → Tp.rights l = true → KidsAt G y l a → KidsAt (fun b => G b ∧ b ≠ bb) y l a) := by
    intro sz
    induction sz with
    | zero =>
      refine ⟨fun t b o h => by have := Tp.size_pos t; omega, fun l a h _ hk => ?_⟩
      cases l with
      | nil => simp [KidsAt]
      | cons t r => have := Tp.size_pos t; simp only [Tp.sizes] at h; omega
    | succ sz ih =>
      have node : ∀ (t : T) (b o : Nat), Tp.size t ≤ sz + 1 → Tp.right t = true → NodeAt G y t b o → b ≠ bb ∧ NodeAt (fun b => G b ∧ b ≠ bb) y t b o := fun t b o h hr hx => by
        obtain ⟨a, cap, q1, q2, q3, q4⟩ := hx.ty
        have hs := kids_sizes t
        refine ⟨fun e => ?_, NodeAt.mk' ⟨q1.1, q1.2.1, q1.2.2.1, q1.2.2.2.1, ih.2 _ _ (by omega) (kids_right hr) q1.2.2.2.2⟩ q2 q3 q4⟩
        rw [e] at q2 q4
        have ho : o = 0 := by
          rcases Nat.eq_zero_or_pos o with h | h
          · exact h
          · exfalso
            have h0 : (#[Value.int .i64 0, .int .i64 0, .slice none 0 0] : Array Value)[o + 2]? = none := Array.getElem?_eq_none (by simp; omega)
            simp [World.cell?, hbox, h0] at q4
        rw [ho] at q2
        have hk : (0 : Int) = t.kind := by simpa [World.cell?, hbox] using q2
        cases t with
        | mk k n l =>
          have h1 := (Tp.right_node hr).1
          have hk' : k = 0 := hk.symm
          rw [hk'] at h1
          simp [Tp.arity] at h1
      have kids : ∀ (l : List T) (a : Option Addr), Tp.sizes l ≤ sz + 1 → Tp.rights l = true → KidsAt G y l a → KidsAt (fun b => G b ∧ b ≠ bb) y l a := fun l => by
        induction l with
        | nil => intro a _ _ _; simp [KidsAt]
        | cons t r ihl =>
          intro a h hr hk
          obtain ⟨b, o, rfl, h2, h3, h4⟩ := hk.head
          simp only [Tp.sizes] at h
          have hd := node t b o (by omega) (Tp.rights_cons hr).1 h3
          simp only [KidsAt]
          exact ⟨b, o, rfl, ⟨h2, hd.1⟩, hd.2, ihl _ (by omega) (Tp.rights_cons hr).2 h4⟩
      exact ⟨node, kids⟩
  exact fun l a hr h => (hn (Tp.sizes l)).2 l a (Nat.le_refl _) hr h

theorem ty_miss {G : Nat → Prop} {y : World} {bb : Nat} {ty : TypeId} {t : T} {a : Option Addr} {c : Nat} (hbox : y.heap[bb]? = some (.cells #[.int .i64 0, .int .i64 0, .slice none 0 0] ty (0, 0))) (hr : Tp.rights t.kids = true) (h : TyAt G y t a c) : TyAt (fun b => G b ∧ b ≠ bb) y t a c :=
  ⟨h.1, h.2.1, h.2.2.1, h.2.2.2.1, KidsAt.miss hbox _ _ hr h.2.2.2.2⟩
theorem put_halfZ {B : Nat} {W y : World} {bb : Nat} {v0 v1 v2 : Value} (hB : Below B W y) (hbb : B ≤ bb) : Below B W (((y.setCell ⟨bb, 0, none⟩ v0).setCell ⟨bb, 1, none⟩ v1).setCell ⟨bb, 2, none⟩ v2) :=
  ((hB.setCell hbb _).setCell hbb _).setCell hbb _
/-- Two boxes of zeros are written with right types: what lies beside them stays. -/
theorem put_twoZ {B : Nat} {W y F : World} {p5 p6 : Nat} {t u : T} {k n k' n' : Int} {l l' : Nat} {a a' : Option Addr} {c c' : Nat} (hv : TV t k n l) (hv' : TV u k' n' l') (hr : Tp.rights t.kids = true) (hr' : Tp.rights u.kids = true) (z5 : y.heap[p5]? = some (.cells #[.int .i64 0, .int .i64 0, .slice none 0 0] 24 (0, 0))) (z6 : y.heap[p6]? = some (.cells #[.int .i64 0, .int .i64 0, .slice none 0 0] 24 (0, 0)))
    (h5 : TyAt (LT y.heap.size) y t a c) (h6 : TyAt (LT y.heap.size) y u a' c') (hB : Below B W y) (hp5 : B ≤ p5) (hp6 : B ≤ p6) (hne : p6 ≠ p5)
    (hF : ((((((y.setCell ⟨p5, 0, none⟩ (.int .i64 k)).setCell ⟨p5, 1, none⟩ (.int .i64 n)).setCell ⟨p5, 2, none⟩ (.slice a l c)).setCell ⟨p6, 0, none⟩ (.int .i64 k')).setCell ⟨p6, 1, none⟩ (.int .i64 n')).setCell ⟨p6, 2, none⟩ (.slice a' l' c')) = F) : BoxT F p5 t k n l a c ∧ BoxT F p6 u k' n' l' a' c' ∧ Below B W F := by
  have hz : F.heap.size = y.heap.size := by rw [← hF]; simp only [size_setCell]
  have hO : ∀ j, j ≠ p5 → j ≠ p6 → F.heap[j]? = y.heap[j]? := fun j h1 h2 => by rw [← hF]; exact (set3_other h2).trans (set3_other h1)
  have b5 : F.heap[p5]? = some (.cells #[.int .i64 k, .int .i64 n, .slice a l c] 24 (0, 0)) := by rw [← hF]; exact (set3_other (fun h => hne h.symm)).trans (box_set3 z5)
  have b6 : F.heap[p6]? = some (.cells #[.int .i64 k', .int .i64 n', .slice a' l' c'] 24 (0, 0)) := by rw [← hF]; exact box_set3 ((set3_other hne).trans z6)
  have keep : ∀ {q : T} {b : Option Addr} {d : Nat}, Tp.rights q.kids = true → TyAt (LT y.heap.size) y q b d → TyAt (LT F.heap.size) F q b d := fun hq h => ty_same (fun j hj => hO j hj.1.2 hj.2) (fun j hj => (show j < F.heap.size by rw [hz]; exact hj.1.1)) (ty_miss z6 hq (ty_miss z5 hq h))
  refine ⟨⟨hv, b5, keep hr h5⟩, ⟨hv', b6, keep hr' h6⟩, ?_⟩
  rw [← hF]
  exact (((((hB.setCell hp5 _).setCell hp5 _).setCell hp5 _).setCell hp6 _).setCell hp6 _).setCell hp6 _

set_option maxRecDepth 100000 in
set_option maxHeartbeats 16000000 in
theorem lparts10_any (t : T) (a : Option Addr) (cap : Nat) (u : T) (b : Option Addr) (cap' : Nat) (p : T) (a5 : Option Addr) (cap5 : Nat) (q : T) (a6 : Option Addr) (cap6 : Nat) (w : World) (hty : TyAt (LT w.heap.size) w t a cap) (hty' : TyAt (LT w.heap.size) w u b cap') (hty5 : TyAt (LT w.heap.size) w p a5 cap5) (hty6 : TyAt (LT w.heap.size) w q a6 cap6) :
    Calls Try.prog 7 #[tv t a cap, tv u b cap', tv p a5 cap5, tv q a6 cap6] w fun e w' => e = .returned (.bool true) ∧ Below w.heap.size w w' := by
  obtain ⟨k0, n0, m0, hv⟩ := TV.mk t
  obtain ⟨k9, n9, m9, hv'⟩ := TV.mk u
  obtain ⟨k5, n5, m5, hv5⟩ := TV.mk p
  obtain ⟨k6, n6, m6, hv6⟩ := TV.mk q
  rw [tv_of hv, tv_of hv', tv_of hv5, tv_of hv6]
  obtain ⟨W2, hW2⟩ : ∃ W2, [Obj.cells #[.int .i64 k0, .int .i64 n0, .slice a m0 cap] 24, .cells #[.int .i64 k9, .int .i64 n9, .slice b m9 cap'] 24, .cells #[.int .i64 k5, .int .i64 n5, .slice a5 m5 cap5] 24, .cells #[.int .i64 k6, .int .i64 n6, .slice a6 m6 cap6] 24].foldl World.alloc w = W2 := ⟨_, rfl⟩
  have hb2 : Below w.heap.size w W2 := by rw [← hW2]; exact al_below _ _ (Nat.le_refl _)
  have bt : BoxT W2 w.heap.size t k0 n0 m0 a cap := ⟨hv, by rw [← hW2]; exact al_get _ w 0 _ rfl, ty_later hty hb2⟩
  have bu : BoxT W2 (w.heap.size + 1) u k9 n9 m9 b cap' := ⟨hv', by rw [← hW2]; exact al_get _ w 1 _ rfl, ty_later hty' hb2⟩
  have bp : BoxT W2 (w.heap.size + 1 + 1) p k5 n5 m5 a5 cap5 := ⟨hv5, by rw [← hW2]; exact al_get _ w 2 _ rfl, ty_later hty5 hb2⟩
  have bq : BoxT W2 (w.heap.size + 1 + 1 + 1) q k6 n6 m6 a6 cap6 := ⟨hv6, by rw [← hW2]; exact al_get _ w 3 _ rfl, ty_later hty6 hb2⟩
  obtain ⟨rr, hrr⟩ : ∃ r, (!decide (600 < Tp.sizes [t, u, p, q]) && Tp.rights [t, u, p, q]) = r := ⟨_, rfl⟩
  obtain ⟨W3, hW3⟩ : ∃ W, W2.alloc (.cells #[.int .i64 k0, .int .i64 n0, .slice a m0 cap, .int .i64 k9, .int .i64 n9, .slice b m9 cap', .int .i64 k5, .int .i64 n5, .slice a5 m5 cap5, .int .i64 k6, .int .i64 n6, .slice a6 m6 cap6] 24) = W := ⟨_, rfl⟩
  have hb3 : Below W2.heap.size W2 W3 := by rw [← hW3]; exact (Below.refl _ _).alloc (Nat.le_refl _) _
  have hg3 := World.alloc_heap_new W2 (.cells #[.int .i64 k0, .int .i64 n0, .slice a m0 cap, .int .i64 k9, .int .i64 n9, .slice b m9 cap', .int .i64 k5, .int .i64 n5, .slice a5 m5 cap5, .int .i64 k6, .int .i64 n6, .slice a6 m6 cap6] 24)
  rw [hW3] at hg3
  have hri := lright_any [t, u, p, q] (some ⟨W2.heap.size, 0, none⟩) 4 W3 (by simp) (row_at4 hv hv' hv5 hv6 hg3 (show W2.heap.size < W3.heap.size from (Array.getElem?_eq_some_iff.1 hg3).1) (ty_later bt.ty hb3) (ty_later bu.ty hb3) (ty_later bp.ty hb3) (ty_later bq.ty hb3))
  rw [hrr] at hri
  have HRI := Lib.hid hri; have HRR := Lib.hid hrr; have HB2 := Lib.hid hb2; have HW2 := Lib.hid (show (((w.alloc (.cells #[.int .i64 k0, .int .i64 n0, .slice a m0 cap] 24)).alloc (.cells #[.int .i64 k9, .int .i64 n9, .slice b m9 cap'] 24)).alloc (.cells #[.int .i64 k5, .int .i64 n5, .slice a5 m5 cap5] 24)).alloc (.cells #[.int .i64 k6, .int .i64 n6, .slice a6 m6 cap6] 24) = W2 from hW2); have HW3 := Lib.hid hW3; have HB3 := Lib.hid hb3
  have BT := Lib.hid bt; have BU := Lib.hid bu; have BP := Lib.hid bp; have BQ := Lib.hid bq
  obtain ⟨c0, c1, c2⟩ := bt.cells
  obtain ⟨d0, d1, d2⟩ := bu.cells
  obtain ⟨e0, e1, e2⟩ := bp.cells
  obtain ⟨g0, g1, g2⟩ := bq.cells
  clear hri hrr hb2 hW2 hW3 hb3 hg3 hty hty' hty5 hty6 hv hv' hv5 hv6 bt bu bp bq
  go_enter Try.func7, Try.ntmps7
  go_upto_region 1 with fail
  rw [HW2.out]
  cases rr with
  | false =>
    go_wp2_with (go_at_call 19; rw [HW3.out]; refine HRI.out.mono ?_; clear c0 c1 c2 d0 d1 d2 e0 e1 e2 g0 g1 g2; rintro e w4 ⟨rfl, hb⟩; have HB4 := Lib.hid (HB3.out.tr hb (Nat.le_refl _)); clear hb)
    go_ret
    exact ⟨rfl, HB2.out.tr HB4.out (Nat.le_refl _)⟩
  | true =>
    obtain ⟨hrt, hru, hrp, hrq, hsz⟩ := four_right HRR.out
    have HRT := Lib.hid hrt; have HRU := Lib.hid hru; have HRP := Lib.hid hrp; have HRQ := Lib.hid hrq
    have HSZ := Lib.hid hsz
    clear hrt hru hrp hrq hsz
    go_upto_region 3 with (go_at_call 19; rw [HW3.out]; refine HRI.out.mono ?_; clear c0 c1 c2 d0 d1 d2 e0 e1 e2 g0 g1 g2; rintro e w4 ⟨rfl, hb⟩; have HB4 := Lib.hid (HB3.out.tr hb (Nat.le_refl _)); clear hb)
    have BT4 := Lib.hid (BT.out.later HB4.out); have BU4 := Lib.hid (BU.out.later HB4.out); have BP4 := Lib.hid (BP.out.later HB4.out); have BQ4 := Lib.hid (BQ.out.later HB4.out)
    have HB04 := Lib.hid (HB2.out.tr HB4.out (Nat.le_refl _))
    clear HRI HRR HW2 HW3 HB3 HB4 BT BU BP BQ HB2
    have h7 : I64 7 := i64_nat (by decide) (by decide)
    have h9 : I64 9 := i64_nat (by decide) (by decide)
    have H7 := Lib.hid h7; have H9 := Lib.hid h9; clear h7 h9
    have HR1 := Lib.hid (show Tp.rights (Tp.T.mk 9 0 [t, u]).kids = true by simp [Tp.T.kids, Tp.rights, HRT.out, HRU.out])
    have HR2 := Lib.hid (show Tp.rights (Tp.T.mk 9 0 [p, q]).kids = true by simp [Tp.T.kids, Tp.rights, HRP.out, HRQ.out])
    have HR5 := Lib.hid (show Tp.rights (Tp.T.mk 7 0 [t, u]).kids = true by simp [Tp.T.kids, Tp.rights, HRT.out, HRU.out])
    have HR6 := Lib.hid (show Tp.rights (Tp.T.mk 7 0 [p, q]).kids = true by simp [Tp.T.kids, Tp.rights, HRP.out, HRQ.out])
    have HR3 := Lib.hid (show Tp.rights (Tp.T.mk 8 0 [t]).kids = true by simp [Tp.T.kids, Tp.rights, HRT.out])
    have HR4 := Lib.hid (show Tp.rights (Tp.T.mk 8 0 [p]).kids = true by simp [Tp.T.kids, Tp.rights, HRP.out])

    have HCELL := Lib.hid (fun x (h : Below w4.heap.size w4 x) => (⟨(BT4.out.later h).cells, (BU4.out.later h).cells, (BP4.out.later h).cells, (BQ4.out.later h).cells⟩ : _ ∧ _ ∧ _ ∧ _))
    have HC1 := Lib.hid (fun x (h : Below w4.heap.size w4 x) => two_ty (w := x) 9 H9.out (BT4.out.later h).says (BU4.out.later h).says (BT4.out.later h).ty (BU4.out.later h).ty)
    have HC2 := Lib.hid (fun x (h : Below w4.heap.size w4 x) => two_ty (w := x) 9 H9.out (BP4.out.later h).says (BQ4.out.later h).says (BP4.out.later h).ty (BQ4.out.later h).ty)
    go_cut [9, 10] from 22 (fun v5 v6 wx => ∃ p5 p6 g5 g6, v5 = .pointer (some ⟨p5, 0, none⟩) ∧ v6 = .pointer (some ⟨p6, 0, none⟩) ∧ BoxT wx p5 (.mk 9 0 [t, u]) 9 0 2 (some ⟨g5, 0, none⟩) 2 ∧ BoxT wx p6 (.mk 9 0 [p, q]) 9 0 2 (some ⟨g6, 0, none⟩) 2 ∧ Below w4.heap.size w4 wx)
    case first =>
      as_aux_lemma =>
      obtain ⟨V0, hV0⟩ : ∃ V, w4.drew = V := ⟨_, rfl⟩
      have HS0 := Lib.hid (show Below w4.heap.size w4 V0 by rw [← hV0]; exact (Below.refl _ _).drew)
      refine wp_region_held_drew (S := Below w4.heap.size w4) (by kernel_rfl) (Below.refl _ _).drew (fun _ => ?_)
      rw [hV0]
      clear hV0
      refine wpAnyH_take (i := 0) (oi := ⟨some 22, _, _, _, _, _⟩) (v := ?_) rfl (by kernel_rfl) (by kernel_rfl) (by kernel_rfl) (fun _ _ _ h => h) (Or.inl ⟨by rfl, ?_⟩) HS0.out ?_
      rotate_left
      · (intro xx hSw; obtain ⟨⟨c0, c1, c2⟩, ⟨d0, d1, d2⟩, ⟨e0, e1, e2⟩, ⟨g0, g1, g2⟩⟩ := HCELL.out _ hSw; go_simp; (try with_reducible rfl))
      try simp only [Act.put, List.setIfInBounds_toArray, List.set_cons_zero, List.set_cons_succ]
      refine wpAnyH_take (i := 1) (oi := ⟨some 23, _, _, _, _, _⟩) (v := ?_) rfl (by kernel_rfl) (by kernel_rfl) (by kernel_rfl) (fun _ _ _ h => h) (Or.inl ⟨by rfl, ?_⟩) HS0.out ?_
      rotate_left
      · (intro xx hSw; obtain ⟨⟨c0, c1, c2⟩, ⟨d0, d1, d2⟩, ⟨e0, e1, e2⟩, ⟨g0, g1, g2⟩⟩ := HCELL.out _ hSw; go_simp; (try with_reducible rfl))
      try simp only [Act.put, List.setIfInBounds_toArray, List.set_cons_zero, List.set_cons_succ]
      refine wpAnyH_take (i := 3) (oi := ⟨some 25, _, _, _, _, _⟩) (v := ?_) rfl (by kernel_rfl) (by kernel_rfl) (by kernel_rfl) (fun _ _ _ h => h) (Or.inl ⟨by rfl, ?_⟩) HS0.out ?_
      rotate_left
      · (intro xx hSw; obtain ⟨⟨c0, c1, c2⟩, ⟨d0, d1, d2⟩, ⟨e0, e1, e2⟩, ⟨g0, g1, g2⟩⟩ := HCELL.out _ hSw; go_simp; (try with_reducible rfl))
      try simp only [Act.put, List.setIfInBounds_toArray, List.set_cons_zero, List.set_cons_succ]
      refine wpAnyH_take (i := 4) (oi := ⟨some 26, _, _, _, _, _⟩) (v := ?_) rfl (by kernel_rfl) (by kernel_rfl) (by kernel_rfl) (fun _ _ _ h => h) (Or.inl ⟨by rfl, ?_⟩) HS0.out ?_
      rotate_left
      · (intro xx hSw; obtain ⟨⟨c0, c1, c2⟩, ⟨d0, d1, d2⟩, ⟨e0, e1, e2⟩, ⟨g0, g1, g2⟩⟩ := HCELL.out _ hSw; go_simp; (try with_reducible rfl))
      try simp only [Act.put, List.setIfInBounds_toArray, List.set_cons_zero, List.set_cons_succ]
      refine wpAnyH_ready (rs := [2, 6, 7]) (by kernel_rfl) (by simp) ?_
      refine AllReadyH.cons (o := ⟨some 24, _, _, _, _, _⟩) rfl (fun K hK => ?_) (AllReadyH.cons (o := ⟨some 9, _, _, _, _, _⟩) rfl (fun K hK => ?_) (AllReadyH.cons (o := ⟨some 10, _, _, _, _, _⟩) rfl (fun K hK => ?_) AllReadyH.nil))
      · skip
        go_simp
        refine (HC1.out _ HS0.out).mono ?_
        rintro e V1 ⟨a5, rfl, ht, hb⟩
        have HK0 := Lib.hid hb
        have HS1 := Lib.hid (Go.RowKit.Below.tr HS0.out hb (Nat.le_refl _))
        have HT5 := Lib.hid ht
        clear hb ht
        dsimp only
        refine hK.out _ _ HS1.out (fun _ => ?_)
        clear hK K
        try simp only [Act.put, List.setIfInBounds_toArray, List.set_cons_zero, List.set_cons_succ]
        refine wpAnyH_ready (rs := [5, 6, 7]) (by kernel_rfl) (by simp) ?_
        refine AllReadyH.cons (o := ⟨some 27, _, _, _, _, _⟩) rfl (fun K hK => ?_) (AllReadyH.cons (o := ⟨some 9, _, _, _, _, _⟩) rfl (fun K hK => ?_) (AllReadyH.cons (o := ⟨some 10, _, _, _, _, _⟩) rfl (fun K hK => ?_) AllReadyH.nil))
        · skip
          go_simp
          refine (HC2.out _ HS1.out).mono ?_
          rintro e V2 ⟨a6, rfl, ht, hb⟩
          have HK1 := Lib.hid hb
          have HS2 := Lib.hid (Go.RowKit.Below.tr HS1.out hb (Nat.le_refl _))
          have HT6 := Lib.hid ht
          clear hb ht
          dsimp only
          refine hK.out _ _ HS2.out (fun _ => ?_)
          clear hK K
          try simp only [Act.put, List.setIfInBounds_toArray, List.set_cons_zero, List.set_cons_succ]
          refine wpAnyH_ready (rs := [6, 7]) (by kernel_rfl) (by simp) ?_
          refine AllReadyH.cons (o := ⟨some 9, _, _, _, _, _⟩) rfl (fun K hK => ?_) (AllReadyH.cons (o := ⟨some 10, _, _, _, _, _⟩) rfl (fun K hK => ?_) AllReadyH.nil)
          · skip
            go_simp
            refine hK.out _ _ (HS2.out.alloc HS2.out.size (.cells #[.int .i64 0, .int .i64 0, .slice none 0 0] 24)) (fun _ => ?_)
            clear hK K
            try simp only [Act.put, List.setIfInBounds_toArray, List.set_cons_zero, List.set_cons_succ]
            obtain ⟨V3, hV⟩ : ∃ V, V2.alloc (.cells #[.int .i64 0, .int .i64 0, .slice none 0 0] 24) = V := ⟨_, rfl⟩
            rw [hV]
            have HK2 := Lib.hid (show Below V2.heap.size V2 V3 by rw [← hV]; exact (Below.refl _ _).alloc (Nat.le_refl _) _)
            have HZ5 := Lib.hid (show V3.heap[V2.heap.size]? = some (.cells #[.int .i64 0, .int .i64 0, .slice none 0 0] 24) by rw [← hV]; exact World.alloc_heap_new _ _)
            have HL5 := Lib.hid (show V2.heap.size < V3.heap.size by rw [← hV, World.size_alloc]; omega)
            have HS3 := Lib.hid (Go.RowKit.Below.tr HS2.out HK2.out (Nat.le_refl _))
            clear hV
            refine wpAnyH_ready (rs := [7]) (by kernel_rfl) (by simp) ?_
            refine AllReadyH.cons (o := ⟨some 10, _, _, _, _, _⟩) rfl (fun K hK => ?_) AllReadyH.nil
            go_simp
            refine hK.out _ _ (HS3.out.alloc HS3.out.size (.cells #[.int .i64 0, .int .i64 0, .slice none 0 0] 24)) (fun _ => ?_)
            clear hK K
            try simp only [Act.put, List.setIfInBounds_toArray, List.set_cons_zero, List.set_cons_succ]
            obtain ⟨V4, hV⟩ : ∃ V, V3.alloc (.cells #[.int .i64 0, .int .i64 0, .slice none 0 0] 24) = V := ⟨_, rfl⟩
            rw [hV]
            have HK3 := Lib.hid (show Below V3.heap.size V3 V4 by rw [← hV]; exact (Below.refl _ _).alloc (Nat.le_refl _) _)
            have HZ6 := Lib.hid (show V4.heap[V3.heap.size]? = some (.cells #[.int .i64 0, .int .i64 0, .slice none 0 0] 24) by rw [← hV]; exact World.alloc_heap_new _ _)
            have HL6 := Lib.hid (show V3.heap.size < V4.heap.size by rw [← hV, World.size_alloc]; omega)
            have HS4 := Lib.hid (Go.RowKit.Below.tr HS3.out HK3.out (Nat.le_refl _))
            clear hV
            have z5 := (HK3.out.block _ HL5.out).trans HZ5.out
            have z6 := ((Below.refl V4.heap.size V4).block _ HL6.out).trans HZ6.out
            have hput := fun F hF => put_twoZ (F := F) (k := 9) (n := 0) (l := 2) (k' := 9) (n' := 0) (l' := 2) ⟨rfl, rfl, rfl⟩ ⟨rfl, rfl, rfl⟩ HR1.out HR2.out z5 z6 (ty_later HT5.out (Go.RowKit.Below.tr (Go.RowKit.Below.tr HK1.out HK2.out (Nat.le_refl _)) HK3.out (Nat.le_refl _))) (ty_later HT6.out (Go.RowKit.Below.tr HK2.out HK3.out (Nat.le_refl _))) HS4.out (Nat.le_trans HS0.out.size (by have := HK0.out.size; have := HK1.out.size; have := HK2.out.size; have := HK3.out.size; have := HL5.out; have := HL6.out; omega)) (Nat.le_trans HS0.out.size (by have := HK0.out.size; have := HK1.out.size; have := HK2.out.size; have := HK3.out.size; have := HL5.out; have := HL6.out; omega)) (by have := HK0.out.size; have := HK1.out.size; have := HK2.out.size; have := HK3.out.size; have := HL5.out; have := HL6.out; omega) hF
            have HPUT := Lib.hid hput
            clear hput
            obtain ⟨z50, z51, z52, f50, f51, f52⟩ := zero_three z5
            refine wpAnyH_ready (rs := [8]) (by kernel_rfl) (by simp) ?_
            refine AllReadyH.cons (o := ⟨none, _, _, _, _, _⟩) rfl (fun K hK => ?_) AllReadyH.nil
            go_simp
            refine hK.out _ _ (put_halfZ HS4.out (Nat.le_trans HS0.out.size (by have := HK0.out.size; have := HK1.out.size; have := HK2.out.size; have := HK3.out.size; have := HL5.out; have := HL6.out; omega))) (fun _ => ?_)
            clear hK K
            try simp only [Act.put, List.setIfInBounds_toArray, List.set_cons_zero, List.set_cons_succ]
            clear z50 z51 z52 f50 f51 f52
            have y6 := (set3_other (V := V4) (b := V2.heap.size) (v0 := .int .i64 9) (v1 := .int .i64 0) (v2 := .slice (some ⟨a5, 0, none⟩) 2 2) (k := V3.heap.size) (by have := HK0.out.size; have := HK1.out.size; have := HK2.out.size; have := HK3.out.size; have := HL5.out; have := HL6.out; omega)).trans z6
            obtain ⟨V5, hV5⟩ : ∃ V, ((V4.setCell ⟨V2.heap.size, 0, none⟩ (.int .i64 9)).setCell ⟨V2.heap.size, 1, none⟩ (.int .i64 0)).setCell ⟨V2.heap.size, 2, none⟩ (.slice (some ⟨a5, 0, none⟩) 2 2) = V := ⟨_, rfl⟩
            rw [hV5] at y6 ⊢
            have HPU2 := Lib.hid (HPUT.out _ (by rw [hV5]))
            obtain ⟨z60, z61, z62, f60, f61, f62⟩ := zero_three y6
            refine wpAnyH_ready (rs := [9]) (by kernel_rfl) (by simp) ?_
            refine AllReadyH.cons (o := ⟨none, _, _, _, _, _⟩) rfl (fun K hK => ?_) AllReadyH.nil
            go_simp
            refine hK.out _ _ HPU2.out.2.2 (fun _ => ?_)
            clear hK K
            try simp only [Act.put, List.setIfInBounds_toArray, List.set_cons_zero, List.set_cons_succ]
            refine wpAnyH_done (by kernel_rfl) ?_ _
            go_wp2_with fail
            go_meet
            case rel => exact ⟨_, _, _, _, rfl, rfl, HPU2.out.1, HPU2.out.2.1, HPU2.out.2.2⟩
          · skip
            go_simp
            refine hK.out _ _ (HS2.out.alloc HS2.out.size (.cells #[.int .i64 0, .int .i64 0, .slice none 0 0] 24)) (fun _ => ?_)
            clear hK K
            try simp only [Act.put, List.setIfInBounds_toArray, List.set_cons_zero, List.set_cons_succ]
            obtain ⟨V3, hV⟩ : ∃ V, V2.alloc (.cells #[.int .i64 0, .int .i64 0, .slice none 0 0] 24) = V := ⟨_, rfl⟩
            rw [hV]
            have HK2 := Lib.hid (show Below V2.heap.size V2 V3 by rw [← hV]; exact (Below.refl _ _).alloc (Nat.le_refl _) _)
            have HZ6 := Lib.hid (show V3.heap[V2.heap.size]? = some (.cells #[.int .i64 0, .int .i64 0, .slice none 0 0] 24) by rw [← hV]; exact World.alloc_heap_new _ _)
            have HL6 := Lib.hid (show V2.heap.size < V3.heap.size by rw [← hV, World.size_alloc]; omega)
            have HS3 := Lib.hid (Go.RowKit.Below.tr HS2.out HK2.out (Nat.le_refl _))
            clear hV
            refine wpAnyH_ready (rs := [6]) (by kernel_rfl) (by simp) ?_
            refine AllReadyH.cons (o := ⟨some 9, _, _, _, _, _⟩) rfl (fun K hK => ?_) AllReadyH.nil
            go_simp
            refine hK.out _ _ (HS3.out.alloc HS3.out.size (.cells #[.int .i64 0, .int .i64 0, .slice none 0 0] 24)) (fun _ => ?_)
            clear hK K
            try simp only [Act.put, List.setIfInBounds_toArray, List.set_cons_zero, List.set_cons_succ]
            obtain ⟨V4, hV⟩ : ∃ V, V3.alloc (.cells #[.int .i64 0, .int .i64 0, .slice none 0 0] 24) = V := ⟨_, rfl⟩
            rw [hV]
            have HK3 := Lib.hid (show Below V3.heap.size V3 V4 by rw [← hV]; exact (Below.refl _ _).alloc (Nat.le_refl _) _)
            have HZ5 := Lib.hid (show V4.heap[V3.heap.size]? = some (.cells #[.int .i64 0, .int .i64 0, .slice none 0 0] 24) by rw [← hV]; exact World.alloc_heap_new _ _)
            have HL5 := Lib.hid (show V3.heap.size < V4.heap.size by rw [← hV, World.size_alloc]; omega)
            have HS4 := Lib.hid (Go.RowKit.Below.tr HS3.out HK3.out (Nat.le_refl _))
            clear hV
            have z5 := ((Below.refl V4.heap.size V4).block _ HL5.out).trans HZ5.out
            have z6 := (HK3.out.block _ HL6.out).trans HZ6.out
            have hput := fun F hF => put_twoZ (F := F) (k := 9) (n := 0) (l := 2) (k' := 9) (n' := 0) (l' := 2) ⟨rfl, rfl, rfl⟩ ⟨rfl, rfl, rfl⟩ HR1.out HR2.out z5 z6 (ty_later HT5.out (Go.RowKit.Below.tr (Go.RowKit.Below.tr HK1.out HK2.out (Nat.le_refl _)) HK3.out (Nat.le_refl _))) (ty_later HT6.out (Go.RowKit.Below.tr HK2.out HK3.out (Nat.le_refl _))) HS4.out (Nat.le_trans HS0.out.size (by have := HK0.out.size; have := HK1.out.size; have := HK2.out.size; have := HK3.out.size; have := HL5.out; have := HL6.out; omega)) (Nat.le_trans HS0.out.size (by have := HK0.out.size; have := HK1.out.size; have := HK2.out.size; have := HK3.out.size; have := HL5.out; have := HL6.out; omega)) (by have := HK0.out.size; have := HK1.out.size; have := HK2.out.size; have := HK3.out.size; have := HL5.out; have := HL6.out; omega) hF
            have HPUT := Lib.hid hput
            clear hput
            obtain ⟨z50, z51, z52, f50, f51, f52⟩ := zero_three z5
            refine wpAnyH_ready (rs := [8]) (by kernel_rfl) (by simp) ?_
            refine AllReadyH.cons (o := ⟨none, _, _, _, _, _⟩) rfl (fun K hK => ?_) AllReadyH.nil
            go_simp
            refine hK.out _ _ (put_halfZ HS4.out (Nat.le_trans HS0.out.size (by have := HK0.out.size; have := HK1.out.size; have := HK2.out.size; have := HK3.out.size; have := HL5.out; have := HL6.out; omega))) (fun _ => ?_)
            clear hK K
            try simp only [Act.put, List.setIfInBounds_toArray, List.set_cons_zero, List.set_cons_succ]
            clear z50 z51 z52 f50 f51 f52
            have y6 := (set3_other (V := V4) (b := V3.heap.size) (v0 := .int .i64 9) (v1 := .int .i64 0) (v2 := .slice (some ⟨a5, 0, none⟩) 2 2) (k := V2.heap.size) (by have := HK0.out.size; have := HK1.out.size; have := HK2.out.size; have := HK3.out.size; have := HL5.out; have := HL6.out; omega)).trans z6
            obtain ⟨V5, hV5⟩ : ∃ V, ((V4.setCell ⟨V3.heap.size, 0, none⟩ (.int .i64 9)).setCell ⟨V3.heap.size, 1, none⟩ (.int .i64 0)).setCell ⟨V3.heap.size, 2, none⟩ (.slice (some ⟨a5, 0, none⟩) 2 2) = V := ⟨_, rfl⟩
            rw [hV5] at y6 ⊢
            have HPU2 := Lib.hid (HPUT.out _ (by rw [hV5]))
            obtain ⟨z60, z61, z62, f60, f61, f62⟩ := zero_three y6
            refine wpAnyH_ready (rs := [9]) (by kernel_rfl) (by simp) ?_
            refine AllReadyH.cons (o := ⟨none, _, _, _, _, _⟩) rfl (fun K hK => ?_) AllReadyH.nil
            go_simp
            refine hK.out _ _ HPU2.out.2.2 (fun _ => ?_)
            clear hK K
            try simp only [Act.put, List.setIfInBounds_toArray, List.set_cons_zero, List.set_cons_succ]
            refine wpAnyH_done (by kernel_rfl) ?_ _
            go_wp2_with fail
            go_meet
            case rel => exact ⟨_, _, _, _, rfl, rfl, HPU2.out.1, HPU2.out.2.1, HPU2.out.2.2⟩
        · skip
          go_simp
          refine hK.out _ _ (HS1.out.alloc HS1.out.size (.cells #[.int .i64 0, .int .i64 0, .slice none 0 0] 24)) (fun _ => ?_)
          clear hK K
          try simp only [Act.put, List.setIfInBounds_toArray, List.set_cons_zero, List.set_cons_succ]
          obtain ⟨V2, hV⟩ : ∃ V, V1.alloc (.cells #[.int .i64 0, .int .i64 0, .slice none 0 0] 24) = V := ⟨_, rfl⟩
          rw [hV]
          have HK1 := Lib.hid (show Below V1.heap.size V1 V2 by rw [← hV]; exact (Below.refl _ _).alloc (Nat.le_refl _) _)
          have HZ5 := Lib.hid (show V2.heap[V1.heap.size]? = some (.cells #[.int .i64 0, .int .i64 0, .slice none 0 0] 24) by rw [← hV]; exact World.alloc_heap_new _ _)
          have HL5 := Lib.hid (show V1.heap.size < V2.heap.size by rw [← hV, World.size_alloc]; omega)
          have HS2 := Lib.hid (Go.RowKit.Below.tr HS1.out HK1.out (Nat.le_refl _))
          clear hV
          refine wpAnyH_ready (rs := [5, 7]) (by kernel_rfl) (by simp) ?_
          refine AllReadyH.cons (o := ⟨some 27, _, _, _, _, _⟩) rfl (fun K hK => ?_) (AllReadyH.cons (o := ⟨some 10, _, _, _, _, _⟩) rfl (fun K hK => ?_) AllReadyH.nil)
          · skip
            go_simp
            refine (HC2.out _ HS2.out).mono ?_
            rintro e V3 ⟨a6, rfl, ht, hb⟩
            have HK2 := Lib.hid hb
            have HS3 := Lib.hid (Go.RowKit.Below.tr HS2.out hb (Nat.le_refl _))
            have HT6 := Lib.hid ht
            clear hb ht
            dsimp only
            refine hK.out _ _ HS3.out (fun _ => ?_)
            clear hK K
            try simp only [Act.put, List.setIfInBounds_toArray, List.set_cons_zero, List.set_cons_succ]
            refine wpAnyH_ready (rs := [7]) (by kernel_rfl) (by simp) ?_
            refine AllReadyH.cons (o := ⟨some 10, _, _, _, _, _⟩) rfl (fun K hK => ?_) AllReadyH.nil
            go_simp
            refine hK.out _ _ (HS3.out.alloc HS3.out.size (.cells #[.int .i64 0, .int .i64 0, .slice none 0 0] 24)) (fun _ => ?_)
            clear hK K
            try simp only [Act.put, List.setIfInBounds_toArray, List.set_cons_zero, List.set_cons_succ]
            obtain ⟨V4, hV⟩ : ∃ V, V3.alloc (.cells #[.int .i64 0, .int .i64 0, .slice none 0 0] 24) = V := ⟨_, rfl⟩
            rw [hV]
            have HK3 := Lib.hid (show Below V3.heap.size V3 V4 by rw [← hV]; exact (Below.refl _ _).alloc (Nat.le_refl _) _)
            have HZ6 := Lib.hid (show V4.heap[V3.heap.size]? = some (.cells #[.int .i64 0, .int .i64 0, .slice none 0 0] 24) by rw [← hV]; exact World.alloc_heap_new _ _)
            have HL6 := Lib.hid (show V3.heap.size < V4.heap.size by rw [← hV, World.size_alloc]; omega)
            have HS4 := Lib.hid (Go.RowKit.Below.tr HS3.out HK3.out (Nat.le_refl _))
            clear hV
            have z5 := ((Go.RowKit.Below.tr HK2.out HK3.out (Nat.le_refl _)).block _ HL5.out).trans HZ5.out
            have z6 := ((Below.refl V4.heap.size V4).block _ HL6.out).trans HZ6.out
            have hput := fun F hF => put_twoZ (F := F) (k := 9) (n := 0) (l := 2) (k' := 9) (n' := 0) (l' := 2) ⟨rfl, rfl, rfl⟩ ⟨rfl, rfl, rfl⟩ HR1.out HR2.out z5 z6 (ty_later HT5.out (Go.RowKit.Below.tr (Go.RowKit.Below.tr HK1.out HK2.out (Nat.le_refl _)) HK3.out (Nat.le_refl _))) (ty_later HT6.out HK3.out) HS4.out (Nat.le_trans HS0.out.size (by have := HK0.out.size; have := HK1.out.size; have := HK2.out.size; have := HK3.out.size; have := HL5.out; have := HL6.out; omega)) (Nat.le_trans HS0.out.size (by have := HK0.out.size; have := HK1.out.size; have := HK2.out.size; have := HK3.out.size; have := HL5.out; have := HL6.out; omega)) (by have := HK0.out.size; have := HK1.out.size; have := HK2.out.size; have := HK3.out.size; have := HL5.out; have := HL6.out; omega) hF
            have HPUT := Lib.hid hput
            clear hput
            obtain ⟨z50, z51, z52, f50, f51, f52⟩ := zero_three z5
            refine wpAnyH_ready (rs := [8]) (by kernel_rfl) (by simp) ?_
            refine AllReadyH.cons (o := ⟨none, _, _, _, _, _⟩) rfl (fun K hK => ?_) AllReadyH.nil
            go_simp
            refine hK.out _ _ (put_halfZ HS4.out (Nat.le_trans HS0.out.size (by have := HK0.out.size; have := HK1.out.size; have := HK2.out.size; have := HK3.out.size; have := HL5.out; have := HL6.out; omega))) (fun _ => ?_)
            clear hK K
            try simp only [Act.put, List.setIfInBounds_toArray, List.set_cons_zero, List.set_cons_succ]
            clear z50 z51 z52 f50 f51 f52
            have y6 := (set3_other (V := V4) (b := V1.heap.size) (v0 := .int .i64 9) (v1 := .int .i64 0) (v2 := .slice (some ⟨a5, 0, none⟩) 2 2) (k := V3.heap.size) (by have := HK0.out.size; have := HK1.out.size; have := HK2.out.size; have := HK3.out.size; have := HL5.out; have := HL6.out; omega)).trans z6
            obtain ⟨V5, hV5⟩ : ∃ V, ((V4.setCell ⟨V1.heap.size, 0, none⟩ (.int .i64 9)).setCell ⟨V1.heap.size, 1, none⟩ (.int .i64 0)).setCell ⟨V1.heap.size, 2, none⟩ (.slice (some ⟨a5, 0, none⟩) 2 2) = V := ⟨_, rfl⟩
            rw [hV5] at y6 ⊢
            have HPU2 := Lib.hid (HPUT.out _ (by rw [hV5]))
            obtain ⟨z60, z61, z62, f60, f61, f62⟩ := zero_three y6
            refine wpAnyH_ready (rs := [9]) (by kernel_rfl) (by simp) ?_
            refine AllReadyH.cons (o := ⟨none, _, _, _, _, _⟩) rfl (fun K hK => ?_) AllReadyH.nil
            go_simp
            refine hK.out _ _ HPU2.out.2.2 (fun _ => ?_)
            clear hK K
            try simp only [Act.put, List.setIfInBounds_toArray, List.set_cons_zero, List.set_cons_succ]
            refine wpAnyH_done (by kernel_rfl) ?_ _
            go_wp2_with fail
            go_meet
            case rel => exact ⟨_, _, _, _, rfl, rfl, HPU2.out.1, HPU2.out.2.1, HPU2.out.2.2⟩
          · skip
            go_simp
            refine hK.out _ _ (HS2.out.alloc HS2.out.size (.cells #[.int .i64 0, .int .i64 0, .slice none 0 0] 24)) (fun _ => ?_)
            clear hK K
            try simp only [Act.put, List.setIfInBounds_toArray, List.set_cons_zero, List.set_cons_succ]
            obtain ⟨V3, hV⟩ : ∃ V, V2.alloc (.cells #[.int .i64 0, .int .i64 0, .slice none 0 0] 24) = V := ⟨_, rfl⟩
            rw [hV]
            have HK2 := Lib.hid (show Below V2.heap.size V2 V3 by rw [← hV]; exact (Below.refl _ _).alloc (Nat.le_refl _) _)
            have HZ6 := Lib.hid (show V3.heap[V2.heap.size]? = some (.cells #[.int .i64 0, .int .i64 0, .slice none 0 0] 24) by rw [← hV]; exact World.alloc_heap_new _ _)
            have HL6 := Lib.hid (show V2.heap.size < V3.heap.size by rw [← hV, World.size_alloc]; omega)
            have HS3 := Lib.hid (Go.RowKit.Below.tr HS2.out HK2.out (Nat.le_refl _))
            clear hV
            refine wpAnyH_ready (rs := [5]) (by kernel_rfl) (by simp) ?_
            refine AllReadyH.cons (o := ⟨some 27, _, _, _, _, _⟩) rfl (fun K hK => ?_) AllReadyH.nil
            go_simp
            refine (HC2.out _ HS3.out).mono ?_
            rintro e V4 ⟨a6, rfl, ht, hb⟩
            have HK3 := Lib.hid hb
            have HS4 := Lib.hid (Go.RowKit.Below.tr HS3.out hb (Nat.le_refl _))
            have HT6 := Lib.hid ht
            clear hb ht
            dsimp only
            refine hK.out _ _ HS4.out (fun _ => ?_)
            clear hK K
            try simp only [Act.put, List.setIfInBounds_toArray, List.set_cons_zero, List.set_cons_succ]
            have z5 := ((Go.RowKit.Below.tr HK2.out HK3.out (Nat.le_refl _)).block _ HL5.out).trans HZ5.out
            have z6 := (HK3.out.block _ HL6.out).trans HZ6.out
            have hput := fun F hF => put_twoZ (F := F) (k := 9) (n := 0) (l := 2) (k' := 9) (n' := 0) (l' := 2) ⟨rfl, rfl, rfl⟩ ⟨rfl, rfl, rfl⟩ HR1.out HR2.out z5 z6 (ty_later HT5.out (Go.RowKit.Below.tr (Go.RowKit.Below.tr HK1.out HK2.out (Nat.le_refl _)) HK3.out (Nat.le_refl _))) (ty_later HT6.out (Below.refl V4.heap.size V4)) HS4.out (Nat.le_trans HS0.out.size (by have := HK0.out.size; have := HK1.out.size; have := HK2.out.size; have := HK3.out.size; have := HL5.out; have := HL6.out; omega)) (Nat.le_trans HS0.out.size (by have := HK0.out.size; have := HK1.out.size; have := HK2.out.size; have := HK3.out.size; have := HL5.out; have := HL6.out; omega)) (by have := HK0.out.size; have := HK1.out.size; have := HK2.out.size; have := HK3.out.size; have := HL5.out; have := HL6.out; omega) hF
            have HPUT := Lib.hid hput
            clear hput
            obtain ⟨z50, z51, z52, f50, f51, f52⟩ := zero_three z5
            refine wpAnyH_ready (rs := [8]) (by kernel_rfl) (by simp) ?_
            refine AllReadyH.cons (o := ⟨none, _, _, _, _, _⟩) rfl (fun K hK => ?_) AllReadyH.nil
            go_simp
            refine hK.out _ _ (put_halfZ HS4.out (Nat.le_trans HS0.out.size (by have := HK0.out.size; have := HK1.out.size; have := HK2.out.size; have := HK3.out.size; have := HL5.out; have := HL6.out; omega))) (fun _ => ?_)
            clear hK K
            try simp only [Act.put, List.setIfInBounds_toArray, List.set_cons_zero, List.set_cons_succ]
            clear z50 z51 z52 f50 f51 f52
            have y6 := (set3_other (V := V4) (b := V1.heap.size) (v0 := .int .i64 9) (v1 := .int .i64 0) (v2 := .slice (some ⟨a5, 0, none⟩) 2 2) (k := V2.heap.size) (by have := HK0.out.size; have := HK1.out.size; have := HK2.out.size; have := HK3.out.size; have := HL5.out; have := HL6.out; omega)).trans z6
            obtain ⟨V5, hV5⟩ : ∃ V, ((V4.setCell ⟨V1.heap.size, 0, none⟩ (.int .i64 9)).setCell ⟨V1.heap.size, 1, none⟩ (.int .i64 0)).setCell ⟨V1.heap.size, 2, none⟩ (.slice (some ⟨a5, 0, none⟩) 2 2) = V := ⟨_, rfl⟩
            rw [hV5] at y6 ⊢
            have HPU2 := Lib.hid (HPUT.out _ (by rw [hV5]))
            obtain ⟨z60, z61, z62, f60, f61, f62⟩ := zero_three y6
            refine wpAnyH_ready (rs := [9]) (by kernel_rfl) (by simp) ?_
            refine AllReadyH.cons (o := ⟨none, _, _, _, _, _⟩) rfl (fun K hK => ?_) AllReadyH.nil
            go_simp
            refine hK.out _ _ HPU2.out.2.2 (fun _ => ?_)
            clear hK K
            try simp only [Act.put, List.setIfInBounds_toArray, List.set_cons_zero, List.set_cons_succ]
            refine wpAnyH_done (by kernel_rfl) ?_ _
            go_wp2_with fail
            go_meet
            case rel => exact ⟨_, _, _, _, rfl, rfl, HPU2.out.1, HPU2.out.2.1, HPU2.out.2.2⟩
        · skip
          go_simp
          refine hK.out _ _ (HS1.out.alloc HS1.out.size (.cells #[.int .i64 0, .int .i64 0, .slice none 0 0] 24)) (fun _ => ?_)
          clear hK K
          try simp only [Act.put, List.setIfInBounds_toArray, List.set_cons_zero, List.set_cons_succ]
          obtain ⟨V2, hV⟩ : ∃ V, V1.alloc (.cells #[.int .i64 0, .int .i64 0, .slice none 0 0] 24) = V := ⟨_, rfl⟩
          rw [hV]
          have HK1 := Lib.hid (show Below V1.heap.size V1 V2 by rw [← hV]; exact (Below.refl _ _).alloc (Nat.le_refl _) _)
          have HZ6 := Lib.hid (show V2.heap[V1.heap.size]? = some (.cells #[.int .i64 0, .int .i64 0, .slice none 0 0] 24) by rw [← hV]; exact World.alloc_heap_new _ _)
          have HL6 := Lib.hid (show V1.heap.size < V2.heap.size by rw [← hV, World.size_alloc]; omega)
          have HS2 := Lib.hid (Go.RowKit.Below.tr HS1.out HK1.out (Nat.le_refl _))
          clear hV
          refine wpAnyH_ready (rs := [5, 6]) (by kernel_rfl) (by simp) ?_
          refine AllReadyH.cons (o := ⟨some 27, _, _, _, _, _⟩) rfl (fun K hK => ?_) (AllReadyH.cons (o := ⟨some 9, _, _, _, _, _⟩) rfl (fun K hK => ?_) AllReadyH.nil)
          · skip
            go_simp
            refine (HC2.out _ HS2.out).mono ?_
            rintro e V3 ⟨a6, rfl, ht, hb⟩
            have HK2 := Lib.hid hb
            have HS3 := Lib.hid (Go.RowKit.Below.tr HS2.out hb (Nat.le_refl _))
            have HT6 := Lib.hid ht
            clear hb ht
            dsimp only
            refine hK.out _ _ HS3.out (fun _ => ?_)
            clear hK K
            try simp only [Act.put, List.setIfInBounds_toArray, List.set_cons_zero, List.set_cons_succ]
            refine wpAnyH_ready (rs := [6]) (by kernel_rfl) (by simp) ?_
            refine AllReadyH.cons (o := ⟨some 9, _, _, _, _, _⟩) rfl (fun K hK => ?_) AllReadyH.nil
            go_simp
            refine hK.out _ _ (HS3.out.alloc HS3.out.size (.cells #[.int .i64 0, .int .i64 0, .slice none 0 0] 24)) (fun _ => ?_)
            clear hK K
            try simp only [Act.put, List.setIfInBounds_toArray, List.set_cons_zero, List.set_cons_succ]
            obtain ⟨V4, hV⟩ : ∃ V, V3.alloc (.cells #[.int .i64 0, .int .i64 0, .slice none 0 0] 24) = V := ⟨_, rfl⟩
            rw [hV]
            have HK3 := Lib.hid (show Below V3.heap.size V3 V4 by rw [← hV]; exact (Below.refl _ _).alloc (Nat.le_refl _) _)
            have HZ5 := Lib.hid (show V4.heap[V3.heap.size]? = some (.cells #[.int .i64 0, .int .i64 0, .slice none 0 0] 24) by rw [← hV]; exact World.alloc_heap_new _ _)
            have HL5 := Lib.hid (show V3.heap.size < V4.heap.size by rw [← hV, World.size_alloc]; omega)
            have HS4 := Lib.hid (Go.RowKit.Below.tr HS3.out HK3.out (Nat.le_refl _))
            clear hV
            have z5 := ((Below.refl V4.heap.size V4).block _ HL5.out).trans HZ5.out
            have z6 := ((Go.RowKit.Below.tr HK2.out HK3.out (Nat.le_refl _)).block _ HL6.out).trans HZ6.out
            have hput := fun F hF => put_twoZ (F := F) (k := 9) (n := 0) (l := 2) (k' := 9) (n' := 0) (l' := 2) ⟨rfl, rfl, rfl⟩ ⟨rfl, rfl, rfl⟩ HR1.out HR2.out z5 z6 (ty_later HT5.out (Go.RowKit.Below.tr (Go.RowKit.Below.tr HK1.out HK2.out (Nat.le_refl _)) HK3.out (Nat.le_refl _))) (ty_later HT6.out HK3.out) HS4.out (Nat.le_trans HS0.out.size (by have := HK0.out.size; have := HK1.out.size; have := HK2.out.size; have := HK3.out.size; have := HL5.out; have := HL6.out; omega)) (Nat.le_trans HS0.out.size (by have := HK0.out.size; have := HK1.out.size; have := HK2.out.size; have := HK3.out.size; have := HL5.out; have := HL6.out; omega)) (by have := HK0.out.size; have := HK1.out.size; have := HK2.out.size; have := HK3.out.size; have := HL5.out; have := HL6.out; omega) hF
            have HPUT := Lib.hid hput
            clear hput
            obtain ⟨z50, z51, z52, f50, f51, f52⟩ := zero_three z5
            refine wpAnyH_ready (rs := [8]) (by kernel_rfl) (by simp) ?_
            refine AllReadyH.cons (o := ⟨none, _, _, _, _, _⟩) rfl (fun K hK => ?_) AllReadyH.nil
            go_simp
            refine hK.out _ _ (put_halfZ HS4.out (Nat.le_trans HS0.out.size (by have := HK0.out.size; have := HK1.out.size; have := HK2.out.size; have := HK3.out.size; have := HL5.out; have := HL6.out; omega))) (fun _ => ?_)
            clear hK K
            try simp only [Act.put, List.setIfInBounds_toArray, List.set_cons_zero, List.set_cons_succ]
            clear z50 z51 z52 f50 f51 f52
            have y6 := (set3_other (V := V4) (b := V3.heap.size) (v0 := .int .i64 9) (v1 := .int .i64 0) (v2 := .slice (some ⟨a5, 0, none⟩) 2 2) (k := V1.heap.size) (by have := HK0.out.size; have := HK1.out.size; have := HK2.out.size; have := HK3.out.size; have := HL5.out; have := HL6.out; omega)).trans z6
            obtain ⟨V5, hV5⟩ : ∃ V, ((V4.setCell ⟨V3.heap.size, 0, none⟩ (.int .i64 9)).setCell ⟨V3.heap.size, 1, none⟩ (.int .i64 0)).setCell ⟨V3.heap.size, 2, none⟩ (.slice (some ⟨a5, 0, none⟩) 2 2) = V := ⟨_, rfl⟩
            rw [hV5] at y6 ⊢
            have HPU2 := Lib.hid (HPUT.out _ (by rw [hV5]))
            obtain ⟨z60, z61, z62, f60, f61, f62⟩ := zero_three y6
            refine wpAnyH_ready (rs := [9]) (by kernel_rfl) (by simp) ?_
            refine AllReadyH.cons (o := ⟨none, _, _, _, _, _⟩) rfl (fun K hK => ?_) AllReadyH.nil
            go_simp
            refine hK.out _ _ HPU2.out.2.2 (fun _ => ?_)
            clear hK K
            try simp only [Act.put, List.setIfInBounds_toArray, List.set_cons_zero, List.set_cons_succ]
            refine wpAnyH_done (by kernel_rfl) ?_ _
            go_wp2_with fail
            go_meet
            case rel => exact ⟨_, _, _, _, rfl, rfl, HPU2.out.1, HPU2.out.2.1, HPU2.out.2.2⟩
          · skip
            go_simp
            refine hK.out _ _ (HS2.out.alloc HS2.out.size (.cells #[.int .i64 0, .int .i64 0, .slice none 0 0] 24)) (fun _ => ?_)
            clear hK K
            try simp only [Act.put, List.setIfInBounds_toArray, List.set_cons_zero, List.set_cons_succ]
            obtain ⟨V3, hV⟩ : ∃ V, V2.alloc (.cells #[.int .i64 0, .int .i64 0, .slice none 0 0] 24) = V := ⟨_, rfl⟩
            rw [hV]
            have HK2 := Lib.hid (show Below V2.heap.size V2 V3 by rw [← hV]; exact (Below.refl _ _).alloc (Nat.le_refl _) _)
            have HZ5 := Lib.hid (show V3.heap[V2.heap.size]? = some (.cells #[.int .i64 0, .int .i64 0, .slice none 0 0] 24) by rw [← hV]; exact World.alloc_heap_new _ _)
            have HL5 := Lib.hid (show V2.heap.size < V3.heap.size by rw [← hV, World.size_alloc]; omega)
            have HS3 := Lib.hid (Go.RowKit.Below.tr HS2.out HK2.out (Nat.le_refl _))
            clear hV
            refine wpAnyH_ready (rs := [5]) (by kernel_rfl) (by simp) ?_
            refine AllReadyH.cons (o := ⟨some 27, _, _, _, _, _⟩) rfl (fun K hK => ?_) AllReadyH.nil
            go_simp
            refine (HC2.out _ HS3.out).mono ?_
            rintro e V4 ⟨a6, rfl, ht, hb⟩
            have HK3 := Lib.hid hb
            have HS4 := Lib.hid (Go.RowKit.Below.tr HS3.out hb (Nat.le_refl _))
            have HT6 := Lib.hid ht
            clear hb ht
            dsimp only
            refine hK.out _ _ HS4.out (fun _ => ?_)
            clear hK K
            try simp only [Act.put, List.setIfInBounds_toArray, List.set_cons_zero, List.set_cons_succ]
            have z5 := (HK3.out.block _ HL5.out).trans HZ5.out
            have z6 := ((Go.RowKit.Below.tr HK2.out HK3.out (Nat.le_refl _)).block _ HL6.out).trans HZ6.out
            have hput := fun F hF => put_twoZ (F := F) (k := 9) (n := 0) (l := 2) (k' := 9) (n' := 0) (l' := 2) ⟨rfl, rfl, rfl⟩ ⟨rfl, rfl, rfl⟩ HR1.out HR2.out z5 z6 (ty_later HT5.out (Go.RowKit.Below.tr (Go.RowKit.Below.tr HK1.out HK2.out (Nat.le_refl _)) HK3.out (Nat.le_refl _))) (ty_later HT6.out (Below.refl V4.heap.size V4)) HS4.out (Nat.le_trans HS0.out.size (by have := HK0.out.size; have := HK1.out.size; have := HK2.out.size; have := HK3.out.size; have := HL5.out; have := HL6.out; omega)) (Nat.le_trans HS0.out.size (by have := HK0.out.size; have := HK1.out.size; have := HK2.out.size; have := HK3.out.size; have := HL5.out; have := HL6.out; omega)) (by have := HK0.out.size; have := HK1.out.size; have := HK2.out.size; have := HK3.out.size; have := HL5.out; have := HL6.out; omega) hF
            have HPUT := Lib.hid hput
            clear hput
            obtain ⟨z50, z51, z52, f50, f51, f52⟩ := zero_three z5
            refine wpAnyH_ready (rs := [8]) (by kernel_rfl) (by simp) ?_
            refine AllReadyH.cons (o := ⟨none, _, _, _, _, _⟩) rfl (fun K hK => ?_) AllReadyH.nil
            go_simp
            refine hK.out _ _ (put_halfZ HS4.out (Nat.le_trans HS0.out.size (by have := HK0.out.size; have := HK1.out.size; have := HK2.out.size; have := HK3.out.size; have := HL5.out; have := HL6.out; omega))) (fun _ => ?_)
            clear hK K
            try simp only [Act.put, List.setIfInBounds_toArray, List.set_cons_zero, List.set_cons_succ]
            clear z50 z51 z52 f50 f51 f52
            have y6 := (set3_other (V := V4) (b := V2.heap.size) (v0 := .int .i64 9) (v1 := .int .i64 0) (v2 := .slice (some ⟨a5, 0, none⟩) 2 2) (k := V1.heap.size) (by have := HK0.out.size; have := HK1.out.size; have := HK2.out.size; have := HK3.out.size; have := HL5.out; have := HL6.out; omega)).trans z6
            obtain ⟨V5, hV5⟩ : ∃ V, ((V4.setCell ⟨V2.heap.size, 0, none⟩ (.int .i64 9)).setCell ⟨V2.heap.size, 1, none⟩ (.int .i64 0)).setCell ⟨V2.heap.size, 2, none⟩ (.slice (some ⟨a5, 0, none⟩) 2 2) = V := ⟨_, rfl⟩
            rw [hV5] at y6 ⊢
            have HPU2 := Lib.hid (HPUT.out _ (by rw [hV5]))
            obtain ⟨z60, z61, z62, f60, f61, f62⟩ := zero_three y6
            refine wpAnyH_ready (rs := [9]) (by kernel_rfl) (by simp) ?_
            refine AllReadyH.cons (o := ⟨none, _, _, _, _, _⟩) rfl (fun K hK => ?_) AllReadyH.nil
            go_simp
            refine hK.out _ _ HPU2.out.2.2 (fun _ => ?_)
            clear hK K
            try simp only [Act.put, List.setIfInBounds_toArray, List.set_cons_zero, List.set_cons_succ]
            refine wpAnyH_done (by kernel_rfl) ?_ _
            go_wp2_with fail
            go_meet
            case rel => exact ⟨_, _, _, _, rfl, rfl, HPU2.out.1, HPU2.out.2.1, HPU2.out.2.2⟩
      · skip
        go_simp
        refine hK.out _ _ (HS0.out.alloc HS0.out.size (.cells #[.int .i64 0, .int .i64 0, .slice none 0 0] 24)) (fun _ => ?_)
        clear hK K
        try simp only [Act.put, List.setIfInBounds_toArray, List.set_cons_zero, List.set_cons_succ]
        obtain ⟨V1, hV⟩ : ∃ V, V0.alloc (.cells #[.int .i64 0, .int .i64 0, .slice none 0 0] 24) = V := ⟨_, rfl⟩
        rw [hV]
        have HK0 := Lib.hid (show Below V0.heap.size V0 V1 by rw [← hV]; exact (Below.refl _ _).alloc (Nat.le_refl _) _)
        have HZ5 := Lib.hid (show V1.heap[V0.heap.size]? = some (.cells #[.int .i64 0, .int .i64 0, .slice none 0 0] 24) by rw [← hV]; exact World.alloc_heap_new _ _)
        have HL5 := Lib.hid (show V0.heap.size < V1.heap.size by rw [← hV, World.size_alloc]; omega)
        have HS1 := Lib.hid (Go.RowKit.Below.tr HS0.out HK0.out (Nat.le_refl _))
        clear hV
        refine wpAnyH_ready (rs := [2, 7]) (by kernel_rfl) (by simp) ?_
        refine AllReadyH.cons (o := ⟨some 24, _, _, _, _, _⟩) rfl (fun K hK => ?_) (AllReadyH.cons (o := ⟨some 10, _, _, _, _, _⟩) rfl (fun K hK => ?_) AllReadyH.nil)
        · skip
          go_simp
          refine (HC1.out _ HS1.out).mono ?_
          rintro e V2 ⟨a5, rfl, ht, hb⟩
          have HK1 := Lib.hid hb
          have HS2 := Lib.hid (Go.RowKit.Below.tr HS1.out hb (Nat.le_refl _))
          have HT5 := Lib.hid ht
          clear hb ht
          dsimp only
          refine hK.out _ _ HS2.out (fun _ => ?_)
          clear hK K
          try simp only [Act.put, List.setIfInBounds_toArray, List.set_cons_zero, List.set_cons_succ]
          refine wpAnyH_ready (rs := [5, 7]) (by kernel_rfl) (by simp) ?_
          refine AllReadyH.cons (o := ⟨some 27, _, _, _, _, _⟩) rfl (fun K hK => ?_) (AllReadyH.cons (o := ⟨some 10, _, _, _, _, _⟩) rfl (fun K hK => ?_) AllReadyH.nil)
          · skip
            go_simp
            refine (HC2.out _ HS2.out).mono ?_
            rintro e V3 ⟨a6, rfl, ht, hb⟩
            have HK2 := Lib.hid hb
            have HS3 := Lib.hid (Go.RowKit.Below.tr HS2.out hb (Nat.le_refl _))
            have HT6 := Lib.hid ht
            clear hb ht
            dsimp only
            refine hK.out _ _ HS3.out (fun _ => ?_)
            clear hK K
            try simp only [Act.put, List.setIfInBounds_toArray, List.set_cons_zero, List.set_cons_succ]
            refine wpAnyH_ready (rs := [7]) (by kernel_rfl) (by simp) ?_
            refine AllReadyH.cons (o := ⟨some 10, _, _, _, _, _⟩) rfl (fun K hK => ?_) AllReadyH.nil
            go_simp
            refine hK.out _ _ (HS3.out.alloc HS3.out.size (.cells #[.int .i64 0, .int .i64 0, .slice none 0 0] 24)) (fun _ => ?_)
            clear hK K
            try simp only [Act.put, List.setIfInBounds_toArray, List.set_cons_zero, List.set_cons_succ]
            obtain ⟨V4, hV⟩ : ∃ V, V3.alloc (.cells #[.int .i64 0, .int .i64 0, .slice none 0 0] 24) = V := ⟨_, rfl⟩
            rw [hV]
            have HK3 := Lib.hid (show Below V3.heap.size V3 V4 by rw [← hV]; exact (Below.refl _ _).alloc (Nat.le_refl _) _)
            have HZ6 := Lib.hid (show V4.heap[V3.heap.size]? = some (.cells #[.int .i64 0, .int .i64 0, .slice none 0 0] 24) by rw [← hV]; exact World.alloc_heap_new _ _)
            have HL6 := Lib.hid (show V3.heap.size < V4.heap.size by rw [← hV, World.size_alloc]; omega)
            have HS4 := Lib.hid (Go.RowKit.Below.tr HS3.out HK3.out (Nat.le_refl _))
            clear hV
            have z5 := ((Go.RowKit.Below.tr (Go.RowKit.Below.tr HK1.out HK2.out (Nat.le_refl _)) HK3.out (Nat.le_refl _)).block _ HL5.out).trans HZ5.out
            have z6 := ((Below.refl V4.heap.size V4).block _ HL6.out).trans HZ6.out
            have hput := fun F hF => put_twoZ (F := F) (k := 9) (n := 0) (l := 2) (k' := 9) (n' := 0) (l' := 2) ⟨rfl, rfl, rfl⟩ ⟨rfl, rfl, rfl⟩ HR1.out HR2.out z5 z6 (ty_later HT5.out (Go.RowKit.Below.tr HK2.out HK3.out (Nat.le_refl _))) (ty_later HT6.out HK3.out) HS4.out (Nat.le_trans HS0.out.size (by have := HK0.out.size; have := HK1.out.size; have := HK2.out.size; have := HK3.out.size; have := HL5.out; have := HL6.out; omega)) (Nat.le_trans HS0.out.size (by have := HK0.out.size; have := HK1.out.size; have := HK2.out.size; have := HK3.out.size; have := HL5.out; have := HL6.out; omega)) (by have := HK0.out.size; have := HK1.out.size; have := HK2.out.size; have := HK3.out.size; have := HL5.out; have := HL6.out; omega) hF
            have HPUT := Lib.hid hput
            clear hput
            obtain ⟨z50, z51, z52, f50, f51, f52⟩ := zero_three z5
            refine wpAnyH_ready (rs := [8]) (by kernel_rfl) (by simp) ?_
            refine AllReadyH.cons (o := ⟨none, _, _, _, _, _⟩) rfl (fun K hK => ?_) AllReadyH.nil
            go_simp
            refine hK.out _ _ (put_halfZ HS4.out (Nat.le_trans HS0.out.size (by have := HK0.out.size; have := HK1.out.size; have := HK2.out.size; have := HK3.out.size; have := HL5.out; have := HL6.out; omega))) (fun _ => ?_)
            clear hK K
            try simp only [Act.put, List.setIfInBounds_toArray, List.set_cons_zero, List.set_cons_succ]
            clear z50 z51 z52 f50 f51 f52
            have y6 := (set3_other (V := V4) (b := V0.heap.size) (v0 := .int .i64 9) (v1 := .int .i64 0) (v2 := .slice (some ⟨a5, 0, none⟩) 2 2) (k := V3.heap.size) (by have := HK0.out.size; have := HK1.out.size; have := HK2.out.size; have := HK3.out.size; have := HL5.out; have := HL6.out; omega)).trans z6
            obtain ⟨V5, hV5⟩ : ∃ V, ((V4.setCell ⟨V0.heap.size, 0, none⟩ (.int .i64 9)).setCell ⟨V0.heap.size, 1, none⟩ (.int .i64 0)).setCell ⟨V0.heap.size, 2, none⟩ (.slice (some ⟨a5, 0, none⟩) 2 2) = V := ⟨_, rfl⟩
            rw [hV5] at y6 ⊢
            have HPU2 := Lib.hid (HPUT.out _ (by rw [hV5]))
            obtain ⟨z60, z61, z62, f60, f61, f62⟩ := zero_three y6
            refine wpAnyH_ready (rs := [9]) (by kernel_rfl) (by simp) ?_
            refine AllReadyH.cons (o := ⟨none, _, _, _, _, _⟩) rfl (fun K hK => ?_) AllReadyH.nil
            go_simp
            refine hK.out _ _ HPU2.out.2.2 (fun _ => ?_)
            clear hK K
            try simp only [Act.put, List.setIfInBounds_toArray, List.set_cons_zero, List.set_cons_succ]
            refine wpAnyH_done (by kernel_rfl) ?_ _
            go_wp2_with fail
            go_meet
            case rel => exact ⟨_, _, _, _, rfl, rfl, HPU2.out.1, HPU2.out.2.1, HPU2.out.2.2⟩
          · skip
            go_simp
            refine hK.out _ _ (HS2.out.alloc HS2.out.size (.cells #[.int .i64 0, .int .i64 0, .slice none 0 0] 24)) (fun _ => ?_)
            clear hK K
            try simp only [Act.put, List.setIfInBounds_toArray, List.set_cons_zero, List.set_cons_succ]
            obtain ⟨V3, hV⟩ : ∃ V, V2.alloc (.cells #[.int .i64 0, .int .i64 0, .slice none 0 0] 24) = V := ⟨_, rfl⟩
            rw [hV]
            have HK2 := Lib.hid (show Below V2.heap.size V2 V3 by rw [← hV]; exact (Below.refl _ _).alloc (Nat.le_refl _) _)
            have HZ6 := Lib.hid (show V3.heap[V2.heap.size]? = some (.cells #[.int .i64 0, .int .i64 0, .slice none 0 0] 24) by rw [← hV]; exact World.alloc_heap_new _ _)
            have HL6 := Lib.hid (show V2.heap.size < V3.heap.size by rw [← hV, World.size_alloc]; omega)
            have HS3 := Lib.hid (Go.RowKit.Below.tr HS2.out HK2.out (Nat.le_refl _))
            clear hV
            refine wpAnyH_ready (rs := [5]) (by kernel_rfl) (by simp) ?_
            refine AllReadyH.cons (o := ⟨some 27, _, _, _, _, _⟩) rfl (fun K hK => ?_) AllReadyH.nil
            go_simp
            refine (HC2.out _ HS3.out).mono ?_
            rintro e V4 ⟨a6, rfl, ht, hb⟩
            have HK3 := Lib.hid hb
            have HS4 := Lib.hid (Go.RowKit.Below.tr HS3.out hb (Nat.le_refl _))
            have HT6 := Lib.hid ht
            clear hb ht
            dsimp only
            refine hK.out _ _ HS4.out (fun _ => ?_)
            clear hK K
            try simp only [Act.put, List.setIfInBounds_toArray, List.set_cons_zero, List.set_cons_succ]
            have z5 := ((Go.RowKit.Below.tr (Go.RowKit.Below.tr HK1.out HK2.out (Nat.le_refl _)) HK3.out (Nat.le_refl _)).block _ HL5.out).trans HZ5.out
            have z6 := (HK3.out.block _ HL6.out).trans HZ6.out
            have hput := fun F hF => put_twoZ (F := F) (k := 9) (n := 0) (l := 2) (k' := 9) (n' := 0) (l' := 2) ⟨rfl, rfl, rfl⟩ ⟨rfl, rfl, rfl⟩ HR1.out HR2.out z5 z6 (ty_later HT5.out (Go.RowKit.Below.tr HK2.out HK3.out (Nat.le_refl _))) (ty_later HT6.out (Below.refl V4.heap.size V4)) HS4.out (Nat.le_trans HS0.out.size (by have := HK0.out.size; have := HK1.out.size; have := HK2.out.size; have := HK3.out.size; have := HL5.out; have := HL6.out; omega)) (Nat.le_trans HS0.out.size (by have := HK0.out.size; have := HK1.out.size; have := HK2.out.size; have := HK3.out.size; have := HL5.out; have := HL6.out; omega)) (by have := HK0.out.size; have := HK1.out.size; have := HK2.out.size; have := HK3.out.size; have := HL5.out; have := HL6.out; omega) hF
            have HPUT := Lib.hid hput
            clear hput
            obtain ⟨z50, z51, z52, f50, f51, f52⟩ := zero_three z5
            refine wpAnyH_ready (rs := [8]) (by kernel_rfl) (by simp) ?_
            refine AllReadyH.cons (o := ⟨none, _, _, _, _, _⟩) rfl (fun K hK => ?_) AllReadyH.nil
            go_simp
            refine hK.out _ _ (put_halfZ HS4.out (Nat.le_trans HS0.out.size (by have := HK0.out.size; have := HK1.out.size; have := HK2.out.size; have := HK3.out.size; have := HL5.out; have := HL6.out; omega))) (fun _ => ?_)
            clear hK K
            try simp only [Act.put, List.setIfInBounds_toArray, List.set_cons_zero, List.set_cons_succ]
            clear z50 z51 z52 f50 f51 f52
            have y6 := (set3_other (V := V4) (b := V0.heap.size) (v0 := .int .i64 9) (v1 := .int .i64 0) (v2 := .slice (some ⟨a5, 0, none⟩) 2 2) (k := V2.heap.size) (by have := HK0.out.size; have := HK1.out.size; have := HK2.out.size; have := HK3.out.size; have := HL5.out; have := HL6.out; omega)).trans z6
            obtain ⟨V5, hV5⟩ : ∃ V, ((V4.setCell ⟨V0.heap.size, 0, none⟩ (.int .i64 9)).setCell ⟨V0.heap.size, 1, none⟩ (.int .i64 0)).setCell ⟨V0.heap.size, 2, none⟩ (.slice (some ⟨a5, 0, none⟩) 2 2) = V := ⟨_, rfl⟩
            rw [hV5] at y6 ⊢
            have HPU2 := Lib.hid (HPUT.out _ (by rw [hV5]))
            obtain ⟨z60, z61, z62, f60, f61, f62⟩ := zero_three y6
            refine wpAnyH_ready (rs := [9]) (by kernel_rfl) (by simp) ?_
            refine AllReadyH.cons (o := ⟨none, _, _, _, _, _⟩) rfl (fun K hK => ?_) AllReadyH.nil
            go_simp
            refine hK.out _ _ HPU2.out.2.2 (fun _ => ?_)
            clear hK K
            try simp only [Act.put, List.setIfInBounds_toArray, List.set_cons_zero, List.set_cons_succ]
            refine wpAnyH_done (by kernel_rfl) ?_ _
            go_wp2_with fail
            go_meet
            case rel => exact ⟨_, _, _, _, rfl, rfl, HPU2.out.1, HPU2.out.2.1, HPU2.out.2.2⟩
        · skip
          go_simp
          refine hK.out _ _ (HS1.out.alloc HS1.out.size (.cells #[.int .i64 0, .int .i64 0, .slice none 0 0] 24)) (fun _ => ?_)
          clear hK K
          try simp only [Act.put, List.setIfInBounds_toArray, List.set_cons_zero, List.set_cons_succ]
          obtain ⟨V2, hV⟩ : ∃ V, V1.alloc (.cells #[.int .i64 0, .int .i64 0, .slice none 0 0] 24) = V := ⟨_, rfl⟩
          rw [hV]
          have HK1 := Lib.hid (show Below V1.heap.size V1 V2 by rw [← hV]; exact (Below.refl _ _).alloc (Nat.le_refl _) _)
          have HZ6 := Lib.hid (show V2.heap[V1.heap.size]? = some (.cells #[.int .i64 0, .int .i64 0, .slice none 0 0] 24) by rw [← hV]; exact World.alloc_heap_new _ _)
          have HL6 := Lib.hid (show V1.heap.size < V2.heap.size by rw [← hV, World.size_alloc]; omega)
          have HS2 := Lib.hid (Go.RowKit.Below.tr HS1.out HK1.out (Nat.le_refl _))
          clear hV
          refine wpAnyH_ready (rs := [2]) (by kernel_rfl) (by simp) ?_
          refine AllReadyH.cons (o := ⟨some 24, _, _, _, _, _⟩) rfl (fun K hK => ?_) AllReadyH.nil
          go_simp
          refine (HC1.out _ HS2.out).mono ?_
          rintro e V3 ⟨a5, rfl, ht, hb⟩
          have HK2 := Lib.hid hb
          have HS3 := Lib.hid (Go.RowKit.Below.tr HS2.out hb (Nat.le_refl _))
          have HT5 := Lib.hid ht
          clear hb ht
          dsimp only
          refine hK.out _ _ HS3.out (fun _ => ?_)
          clear hK K
          try simp only [Act.put, List.setIfInBounds_toArray, List.set_cons_zero, List.set_cons_succ]
          refine wpAnyH_ready (rs := [5]) (by kernel_rfl) (by simp) ?_
          refine AllReadyH.cons (o := ⟨some 27, _, _, _, _, _⟩) rfl (fun K hK => ?_) AllReadyH.nil
          go_simp
          refine (HC2.out _ HS3.out).mono ?_
          rintro e V4 ⟨a6, rfl, ht, hb⟩
          have HK3 := Lib.hid hb
          have HS4 := Lib.hid (Go.RowKit.Below.tr HS3.out hb (Nat.le_refl _))
          have HT6 := Lib.hid ht
          clear hb ht
          dsimp only
          refine hK.out _ _ HS4.out (fun _ => ?_)
          clear hK K
          try simp only [Act.put, List.setIfInBounds_toArray, List.set_cons_zero, List.set_cons_succ]
          have z5 := ((Go.RowKit.Below.tr (Go.RowKit.Below.tr HK1.out HK2.out (Nat.le_refl _)) HK3.out (Nat.le_refl _)).block _ HL5.out).trans HZ5.out
          have z6 := ((Go.RowKit.Below.tr HK2.out HK3.out (Nat.le_refl _)).block _ HL6.out).trans HZ6.out
          have hput := fun F hF => put_twoZ (F := F) (k := 9) (n := 0) (l := 2) (k' := 9) (n' := 0) (l' := 2) ⟨rfl, rfl, rfl⟩ ⟨rfl, rfl, rfl⟩ HR1.out HR2.out z5 z6 (ty_later HT5.out HK3.out) (ty_later HT6.out (Below.refl V4.heap.size V4)) HS4.out (Nat.le_trans HS0.out.size (by have := HK0.out.size; have := HK1.out.size; have := HK2.out.size; have := HK3.out.size; have := HL5.out; have := HL6.out; omega)) (Nat.le_trans HS0.out.size (by have := HK0.out.size; have := HK1.out.size; have := HK2.out.size; have := HK3.out.size; have := HL5.out; have := HL6.out; omega)) (by have := HK0.out.size; have := HK1.out.size; have := HK2.out.size; have := HK3.out.size; have := HL5.out; have := HL6.out; omega) hF
          have HPUT := Lib.hid hput
          clear hput
          obtain ⟨z50, z51, z52, f50, f51, f52⟩ := zero_three z5
          refine wpAnyH_ready (rs := [8]) (by kernel_rfl) (by simp) ?_
          refine AllReadyH.cons (o := ⟨none, _, _, _, _, _⟩) rfl (fun K hK => ?_) AllReadyH.nil
          go_simp
          refine hK.out _ _ (put_halfZ HS4.out (Nat.le_trans HS0.out.size (by have := HK0.out.size; have := HK1.out.size; have := HK2.out.size; have := HK3.out.size; have := HL5.out; have := HL6.out; omega))) (fun _ => ?_)
          clear hK K
          try simp only [Act.put, List.setIfInBounds_toArray, List.set_cons_zero, List.set_cons_succ]
          clear z50 z51 z52 f50 f51 f52
          have y6 := (set3_other (V := V4) (b := V0.heap.size) (v0 := .int .i64 9) (v1 := .int .i64 0) (v2 := .slice (some ⟨a5, 0, none⟩) 2 2) (k := V1.heap.size) (by have := HK0.out.size; have := HK1.out.size; have := HK2.out.size; have := HK3.out.size; have := HL5.out; have := HL6.out; omega)).trans z6
          obtain ⟨V5, hV5⟩ : ∃ V, ((V4.setCell ⟨V0.heap.size, 0, none⟩ (.int .i64 9)).setCell ⟨V0.heap.size, 1, none⟩ (.int .i64 0)).setCell ⟨V0.heap.size, 2, none⟩ (.slice (some ⟨a5, 0, none⟩) 2 2) = V := ⟨_, rfl⟩
          rw [hV5] at y6 ⊢
          have HPU2 := Lib.hid (HPUT.out _ (by rw [hV5]))
          obtain ⟨z60, z61, z62, f60, f61, f62⟩ := zero_three y6
          refine wpAnyH_ready (rs := [9]) (by kernel_rfl) (by simp) ?_
          refine AllReadyH.cons (o := ⟨none, _, _, _, _, _⟩) rfl (fun K hK => ?_) AllReadyH.nil
          go_simp
          refine hK.out _ _ HPU2.out.2.2 (fun _ => ?_)
          clear hK K
          try simp only [Act.put, List.setIfInBounds_toArray, List.set_cons_zero, List.set_cons_succ]
          refine wpAnyH_done (by kernel_rfl) ?_ _
          go_wp2_with fail
          go_meet
          case rel => exact ⟨_, _, _, _, rfl, rfl, HPU2.out.1, HPU2.out.2.1, HPU2.out.2.2⟩
      · skip
        go_simp
        refine hK.out _ _ (HS0.out.alloc HS0.out.size (.cells #[.int .i64 0, .int .i64 0, .slice none 0 0] 24)) (fun _ => ?_)
        clear hK K
        try simp only [Act.put, List.setIfInBounds_toArray, List.set_cons_zero, List.set_cons_succ]
        obtain ⟨V1, hV⟩ : ∃ V, V0.alloc (.cells #[.int .i64 0, .int .i64 0, .slice none 0 0] 24) = V := ⟨_, rfl⟩
        rw [hV]
        have HK0 := Lib.hid (show Below V0.heap.size V0 V1 by rw [← hV]; exact (Below.refl _ _).alloc (Nat.le_refl _) _)
        have HZ6 := Lib.hid (show V1.heap[V0.heap.size]? = some (.cells #[.int .i64 0, .int .i64 0, .slice none 0 0] 24) by rw [← hV]; exact World.alloc_heap_new _ _)
        have HL6 := Lib.hid (show V0.heap.size < V1.heap.size by rw [← hV, World.size_alloc]; omega)
        have HS1 := Lib.hid (Go.RowKit.Below.tr HS0.out HK0.out (Nat.le_refl _))
        clear hV
        refine wpAnyH_ready (rs := [2, 6]) (by kernel_rfl) (by simp) ?_
        refine AllReadyH.cons (o := ⟨some 24, _, _, _, _, _⟩) rfl (fun K hK => ?_) (AllReadyH.cons (o := ⟨some 9, _, _, _, _, _⟩) rfl (fun K hK => ?_) AllReadyH.nil)
        · skip
          go_simp
          refine (HC1.out _ HS1.out).mono ?_
          rintro e V2 ⟨a5, rfl, ht, hb⟩
          have HK1 := Lib.hid hb
          have HS2 := Lib.hid (Go.RowKit.Below.tr HS1.out hb (Nat.le_refl _))
          have HT5 := Lib.hid ht
          clear hb ht
          dsimp only
          refine hK.out _ _ HS2.out (fun _ => ?_)
          clear hK K
          try simp only [Act.put, List.setIfInBounds_toArray, List.set_cons_zero, List.set_cons_succ]
          refine wpAnyH_ready (rs := [5, 6]) (by kernel_rfl) (by simp) ?_
          refine AllReadyH.cons (o := ⟨some 27, _, _, _, _, _⟩) rfl (fun K hK => ?_) (AllReadyH.cons (o := ⟨some 9, _, _, _, _, _⟩) rfl (fun K hK => ?_) AllReadyH.nil)
          · skip
            go_simp
            refine (HC2.out _ HS2.out).mono ?_
            rintro e V3 ⟨a6, rfl, ht, hb⟩
            have HK2 := Lib.hid hb
            have HS3 := Lib.hid (Go.RowKit.Below.tr HS2.out hb (Nat.le_refl _))
            have HT6 := Lib.hid ht
            clear hb ht
            dsimp only
            refine hK.out _ _ HS3.out (fun _ => ?_)
            clear hK K
            try simp only [Act.put, List.setIfInBounds_toArray, List.set_cons_zero, List.set_cons_succ]
            refine wpAnyH_ready (rs := [6]) (by kernel_rfl) (by simp) ?_
            refine AllReadyH.cons (o := ⟨some 9, _, _, _, _, _⟩) rfl (fun K hK => ?_) AllReadyH.nil
            go_simp
            refine hK.out _ _ (HS3.out.alloc HS3.out.size (.cells #[.int .i64 0, .int .i64 0, .slice none 0 0] 24)) (fun _ => ?_)
            clear hK K
            try simp only [Act.put, List.setIfInBounds_toArray, List.set_cons_zero, List.set_cons_succ]
            obtain ⟨V4, hV⟩ : ∃ V, V3.alloc (.cells #[.int .i64 0, .int .i64 0, .slice none 0 0] 24) = V := ⟨_, rfl⟩
            rw [hV]
            have HK3 := Lib.hid (show Below V3.heap.size V3 V4 by rw [← hV]; exact (Below.refl _ _).alloc (Nat.le_refl _) _)
            have HZ5 := Lib.hid (show V4.heap[V3.heap.size]? = some (.cells #[.int .i64 0, .int .i64 0, .slice none 0 0] 24) by rw [← hV]; exact World.alloc_heap_new _ _)
            have HL5 := Lib.hid (show V3.heap.size < V4.heap.size by rw [← hV, World.size_alloc]; omega)
            have HS4 := Lib.hid (Go.RowKit.Below.tr HS3.out HK3.out (Nat.le_refl _))
            clear hV
            have z5 := ((Below.refl V4.heap.size V4).block _ HL5.out).trans HZ5.out
            have z6 := ((Go.RowKit.Below.tr (Go.RowKit.Below.tr HK1.out HK2.out (Nat.le_refl _)) HK3.out (Nat.le_refl _)).block _ HL6.out).trans HZ6.out
            have hput := fun F hF => put_twoZ (F := F) (k := 9) (n := 0) (l := 2) (k' := 9) (n' := 0) (l' := 2) ⟨rfl, rfl, rfl⟩ ⟨rfl, rfl, rfl⟩ HR1.out HR2.out z5 z6 (ty_later HT5.out (Go.RowKit.Below.tr HK2.out HK3.out (Nat.le_refl _))) (ty_later HT6.out HK3.out) HS4.out (Nat.le_trans HS0.out.size (by have := HK0.out.size; have := HK1.out.size; have := HK2.out.size; have := HK3.out.size; have := HL5.out; have := HL6.out; omega)) (Nat.le_trans HS0.out.size (by have := HK0.out.size; have := HK1.out.size; have := HK2.out.size; have := HK3.out.size; have := HL5.out; have := HL6.out; omega)) (by have := HK0.out.size; have := HK1.out.size; have := HK2.out.size; have := HK3.out.size; have := HL5.out; have := HL6.out; omega) hF
            have HPUT := Lib.hid hput
            clear hput
            obtain ⟨z50, z51, z52, f50, f51, f52⟩ := zero_three z5
            refine wpAnyH_ready (rs := [8]) (by kernel_rfl) (by simp) ?_
            refine AllReadyH.cons (o := ⟨none, _, _, _, _, _⟩) rfl (fun K hK => ?_) AllReadyH.nil
            go_simp
            refine hK.out _ _ (put_halfZ HS4.out (Nat.le_trans HS0.out.size (by have := HK0.out.size; have := HK1.out.size; have := HK2.out.size; have := HK3.out.size; have := HL5.out; have := HL6.out; omega))) (fun _ => ?_)
            clear hK K
            try simp only [Act.put, List.setIfInBounds_toArray, List.set_cons_zero, List.set_cons_succ]
            clear z50 z51 z52 f50 f51 f52
            have y6 := (set3_other (V := V4) (b := V3.heap.size) (v0 := .int .i64 9) (v1 := .int .i64 0) (v2 := .slice (some ⟨a5, 0, none⟩) 2 2) (k := V0.heap.size) (by have := HK0.out.size; have := HK1.out.size; have := HK2.out.size; have := HK3.out.size; have := HL5.out; have := HL6.out; omega)).trans z6
            obtain ⟨V5, hV5⟩ : ∃ V, ((V4.setCell ⟨V3.heap.size, 0, none⟩ (.int .i64 9)).setCell ⟨V3.heap.size, 1, none⟩ (.int .i64 0)).setCell ⟨V3.heap.size, 2, none⟩ (.slice (some ⟨a5, 0, none⟩) 2 2) = V := ⟨_, rfl⟩
            rw [hV5] at y6 ⊢
            have HPU2 := Lib.hid (HPUT.out _ (by rw [hV5]))
            obtain ⟨z60, z61, z62, f60, f61, f62⟩ := zero_three y6
            refine wpAnyH_ready (rs := [9]) (by kernel_rfl) (by simp) ?_
            refine AllReadyH.cons (o := ⟨none, _, _, _, _, _⟩) rfl (fun K hK => ?_) AllReadyH.nil
            go_simp
            refine hK.out _ _ HPU2.out.2.2 (fun _ => ?_)
            clear hK K
            try simp only [Act.put, List.setIfInBounds_toArray, List.set_cons_zero, List.set_cons_succ]
            refine wpAnyH_done (by kernel_rfl) ?_ _
            go_wp2_with fail
            go_meet
            case rel => exact ⟨_, _, _, _, rfl, rfl, HPU2.out.1, HPU2.out.2.1, HPU2.out.2.2⟩
          · skip
            go_simp
            refine hK.out _ _ (HS2.out.alloc HS2.out.size (.cells #[.int .i64 0, .int .i64 0, .slice none 0 0] 24)) (fun _ => ?_)
            clear hK K
            try simp only [Act.put, List.setIfInBounds_toArray, List.set_cons_zero, List.set_cons_succ]
            obtain ⟨V3, hV⟩ : ∃ V, V2.alloc (.cells #[.int .i64 0, .int .i64 0, .slice none 0 0] 24) = V := ⟨_, rfl⟩
            rw [hV]
            have HK2 := Lib.hid (show Below V2.heap.size V2 V3 by rw [← hV]; exact (Below.refl _ _).alloc (Nat.le_refl _) _)
            have HZ5 := Lib.hid (show V3.heap[V2.heap.size]? = some (.cells #[.int .i64 0, .int .i64 0, .slice none 0 0] 24) by rw [← hV]; exact World.alloc_heap_new _ _)
            have HL5 := Lib.hid (show V2.heap.size < V3.heap.size by rw [← hV, World.size_alloc]; omega)
            have HS3 := Lib.hid (Go.RowKit.Below.tr HS2.out HK2.out (Nat.le_refl _))
            clear hV
            refine wpAnyH_ready (rs := [5]) (by kernel_rfl) (by simp) ?_
            refine AllReadyH.cons (o := ⟨some 27, _, _, _, _, _⟩) rfl (fun K hK => ?_) AllReadyH.nil
            go_simp
            refine (HC2.out _ HS3.out).mono ?_
            rintro e V4 ⟨a6, rfl, ht, hb⟩
            have HK3 := Lib.hid hb
            have HS4 := Lib.hid (Go.RowKit.Below.tr HS3.out hb (Nat.le_refl _))
            have HT6 := Lib.hid ht
            clear hb ht
            dsimp only
            refine hK.out _ _ HS4.out (fun _ => ?_)
            clear hK K
            try simp only [Act.put, List.setIfInBounds_toArray, List.set_cons_zero, List.set_cons_succ]
            have z5 := (HK3.out.block _ HL5.out).trans HZ5.out
            have z6 := ((Go.RowKit.Below.tr (Go.RowKit.Below.tr HK1.out HK2.out (Nat.le_refl _)) HK3.out (Nat.le_refl _)).block _ HL6.out).trans HZ6.out
            have hput := fun F hF => put_twoZ (F := F) (k := 9) (n := 0) (l := 2) (k' := 9) (n' := 0) (l' := 2) ⟨rfl, rfl, rfl⟩ ⟨rfl, rfl, rfl⟩ HR1.out HR2.out z5 z6 (ty_later HT5.out (Go.RowKit.Below.tr HK2.out HK3.out (Nat.le_refl _))) (ty_later HT6.out (Below.refl V4.heap.size V4)) HS4.out (Nat.le_trans HS0.out.size (by have := HK0.out.size; have := HK1.out.size; have := HK2.out.size; have := HK3.out.size; have := HL5.out; have := HL6.out; omega)) (Nat.le_trans HS0.out.size (by have := HK0.out.size; have := HK1.out.size; have := HK2.out.size; have := HK3.out.size; have := HL5.out; have := HL6.out; omega)) (by have := HK0.out.size; have := HK1.out.size; have := HK2.out.size; have := HK3.out.size; have := HL5.out; have := HL6.out; omega) hF
            have HPUT := Lib.hid hput
            clear hput
            obtain ⟨z50, z51, z52, f50, f51, f52⟩ := zero_three z5
            refine wpAnyH_ready (rs := [8]) (by kernel_rfl) (by simp) ?_
            refine AllReadyH.cons (o := ⟨none, _, _, _, _, _⟩) rfl (fun K hK => ?_) AllReadyH.nil
            go_simp
            refine hK.out _ _ (put_halfZ HS4.out (Nat.le_trans HS0.out.size (by have := HK0.out.size; have := HK1.out.size; have := HK2.out.size; have := HK3.out.size; have := HL5.out; have := HL6.out; omega))) (fun _ => ?_)
            clear hK K
            try simp only [Act.put, List.setIfInBounds_toArray, List.set_cons_zero, List.set_cons_succ]
            clear z50 z51 z52 f50 f51 f52
            have y6 := (set3_other (V := V4) (b := V2.heap.size) (v0 := .int .i64 9) (v1 := .int .i64 0) (v2 := .slice (some ⟨a5, 0, none⟩) 2 2) (k := V0.heap.size) (by have := HK0.out.size; have := HK1.out.size; have := HK2.out.size; have := HK3.out.size; have := HL5.out; have := HL6.out; omega)).trans z6
            obtain ⟨V5, hV5⟩ : ∃ V, ((V4.setCell ⟨V2.heap.size, 0, none⟩ (.int .i64 9)).setCell ⟨V2.heap.size, 1, none⟩ (.int .i64 0)).setCell ⟨V2.heap.size, 2, none⟩ (.slice (some ⟨a5, 0, none⟩) 2 2) = V := ⟨_, rfl⟩
            rw [hV5] at y6 ⊢
            have HPU2 := Lib.hid (HPUT.out _ (by rw [hV5]))
            obtain ⟨z60, z61, z62, f60, f61, f62⟩ := zero_three y6
            refine wpAnyH_ready (rs := [9]) (by kernel_rfl) (by simp) ?_
            refine AllReadyH.cons (o := ⟨none, _, _, _, _, _⟩) rfl (fun K hK => ?_) AllReadyH.nil
            go_simp
            refine hK.out _ _ HPU2.out.2.2 (fun _ => ?_)
            clear hK K
            try simp only [Act.put, List.setIfInBounds_toArray, List.set_cons_zero, List.set_cons_succ]
            refine wpAnyH_done (by kernel_rfl) ?_ _
            go_wp2_with fail
            go_meet
            case rel => exact ⟨_, _, _, _, rfl, rfl, HPU2.out.1, HPU2.out.2.1, HPU2.out.2.2⟩
        · skip
          go_simp
          refine hK.out _ _ (HS1.out.alloc HS1.out.size (.cells #[.int .i64 0, .int .i64 0, .slice none 0 0] 24)) (fun _ => ?_)
          clear hK K
          try simp only [Act.put, List.setIfInBounds_toArray, List.set_cons_zero, List.set_cons_succ]
          obtain ⟨V2, hV⟩ : ∃ V, V1.alloc (.cells #[.int .i64 0, .int .i64 0, .slice none 0 0] 24) = V := ⟨_, rfl⟩
          rw [hV]
          have HK1 := Lib.hid (show Below V1.heap.size V1 V2 by rw [← hV]; exact (Below.refl _ _).alloc (Nat.le_refl _) _)
          have HZ5 := Lib.hid (show V2.heap[V1.heap.size]? = some (.cells #[.int .i64 0, .int .i64 0, .slice none 0 0] 24) by rw [← hV]; exact World.alloc_heap_new _ _)
          have HL5 := Lib.hid (show V1.heap.size < V2.heap.size by rw [← hV, World.size_alloc]; omega)
          have HS2 := Lib.hid (Go.RowKit.Below.tr HS1.out HK1.out (Nat.le_refl _))
          clear hV
          refine wpAnyH_ready (rs := [2]) (by kernel_rfl) (by simp) ?_
          refine AllReadyH.cons (o := ⟨some 24, _, _, _, _, _⟩) rfl (fun K hK => ?_) AllReadyH.nil
          go_simp
          refine (HC1.out _ HS2.out).mono ?_
          rintro e V3 ⟨a5, rfl, ht, hb⟩
          have HK2 := Lib.hid hb
          have HS3 := Lib.hid (Go.RowKit.Below.tr HS2.out hb (Nat.le_refl _))
          have HT5 := Lib.hid ht
          clear hb ht
          dsimp only
          refine hK.out _ _ HS3.out (fun _ => ?_)
          clear hK K
          try simp only [Act.put, List.setIfInBounds_toArray, List.set_cons_zero, List.set_cons_succ]
          refine wpAnyH_ready (rs := [5]) (by kernel_rfl) (by simp) ?_
          refine AllReadyH.cons (o := ⟨some 27, _, _, _, _, _⟩) rfl (fun K hK => ?_) AllReadyH.nil
          go_simp
          refine (HC2.out _ HS3.out).mono ?_
          rintro e V4 ⟨a6, rfl, ht, hb⟩
          have HK3 := Lib.hid hb
          have HS4 := Lib.hid (Go.RowKit.Below.tr HS3.out hb (Nat.le_refl _))
          have HT6 := Lib.hid ht
          clear hb ht
          dsimp only
          refine hK.out _ _ HS4.out (fun _ => ?_)
          clear hK K
          try simp only [Act.put, List.setIfInBounds_toArray, List.set_cons_zero, List.set_cons_succ]
          have z5 := ((Go.RowKit.Below.tr HK2.out HK3.out (Nat.le_refl _)).block _ HL5.out).trans HZ5.out
          have z6 := ((Go.RowKit.Below.tr (Go.RowKit.Below.tr HK1.out HK2.out (Nat.le_refl _)) HK3.out (Nat.le_refl _)).block _ HL6.out).trans HZ6.out
          have hput := fun F hF => put_twoZ (F := F) (k := 9) (n := 0) (l := 2) (k' := 9) (n' := 0) (l' := 2) ⟨rfl, rfl, rfl⟩ ⟨rfl, rfl, rfl⟩ HR1.out HR2.out z5 z6 (ty_later HT5.out HK3.out) (ty_later HT6.out (Below.refl V4.heap.size V4)) HS4.out (Nat.le_trans HS0.out.size (by have := HK0.out.size; have := HK1.out.size; have := HK2.out.size; have := HK3.out.size; have := HL5.out; have := HL6.out; omega)) (Nat.le_trans HS0.out.size (by have := HK0.out.size; have := HK1.out.size; have := HK2.out.size; have := HK3.out.size; have := HL5.out; have := HL6.out; omega)) (by have := HK0.out.size; have := HK1.out.size; have := HK2.out.size; have := HK3.out.size; have := HL5.out; have := HL6.out; omega) hF
          have HPUT := Lib.hid hput
          clear hput
          obtain ⟨z50, z51, z52, f50, f51, f52⟩ := zero_three z5
          refine wpAnyH_ready (rs := [8]) (by kernel_rfl) (by simp) ?_
          refine AllReadyH.cons (o := ⟨none, _, _, _, _, _⟩) rfl (fun K hK => ?_) AllReadyH.nil
          go_simp
          refine hK.out _ _ (put_halfZ HS4.out (Nat.le_trans HS0.out.size (by have := HK0.out.size; have := HK1.out.size; have := HK2.out.size; have := HK3.out.size; have := HL5.out; have := HL6.out; omega))) (fun _ => ?_)
          clear hK K
          try simp only [Act.put, List.setIfInBounds_toArray, List.set_cons_zero, List.set_cons_succ]
          clear z50 z51 z52 f50 f51 f52
          have y6 := (set3_other (V := V4) (b := V1.heap.size) (v0 := .int .i64 9) (v1 := .int .i64 0) (v2 := .slice (some ⟨a5, 0, none⟩) 2 2) (k := V0.heap.size) (by have := HK0.out.size; have := HK1.out.size; have := HK2.out.size; have := HK3.out.size; have := HL5.out; have := HL6.out; omega)).trans z6
          obtain ⟨V5, hV5⟩ : ∃ V, ((V4.setCell ⟨V1.heap.size, 0, none⟩ (.int .i64 9)).setCell ⟨V1.heap.size, 1, none⟩ (.int .i64 0)).setCell ⟨V1.heap.size, 2, none⟩ (.slice (some ⟨a5, 0, none⟩) 2 2) = V := ⟨_, rfl⟩
          rw [hV5] at y6 ⊢
          have HPU2 := Lib.hid (HPUT.out _ (by rw [hV5]))
          obtain ⟨z60, z61, z62, f60, f61, f62⟩ := zero_three y6
          refine wpAnyH_ready (rs := [9]) (by kernel_rfl) (by simp) ?_
          refine AllReadyH.cons (o := ⟨none, _, _, _, _, _⟩) rfl (fun K hK => ?_) AllReadyH.nil
          go_simp
          refine hK.out _ _ HPU2.out.2.2 (fun _ => ?_)
          clear hK K
          try simp only [Act.put, List.setIfInBounds_toArray, List.set_cons_zero, List.set_cons_succ]
          refine wpAnyH_done (by kernel_rfl) ?_ _
          go_wp2_with fail
          go_meet
          case rel => exact ⟨_, _, _, _, rfl, rfl, HPU2.out.1, HPU2.out.2.1, HPU2.out.2.2⟩
    case rest =>
    as_aux_lemma =>
    obtain ⟨p5, p6, g5, g6, rfl, rfl, b5, b6, hb⟩ := hcut
    obtain ⟨w5, hw5⟩ : ∃ x, wc = x := ⟨_, rfl⟩
    rw [hw5] at b5 b6 hb ⊢
    have BT5 := Lib.hid (BT4.out.later hb); have BU5 := Lib.hid (BU4.out.later hb); have BP5 := Lib.hid (BP4.out.later hb); have BQ5 := Lib.hid (BQ4.out.later hb); have BF5 := Lib.hid b5; have BG5 := Lib.hid b6; have HB05 := Lib.hid (HB04.out.tr hb (Nat.le_refl _))
    clear b5 b6 hb HC1 HC2 HCELL hw5 BT4 BU4 BP4 BQ4 HB04
    have HCELL := Lib.hid (fun x (h : Below w5.heap.size w5 x) => (⟨(BT5.out.later h).cells, (BU5.out.later h).cells, (BP5.out.later h).cells, (BQ5.out.later h).cells⟩ : _ ∧ _ ∧ _ ∧ _))
    have HC1 := Lib.hid (fun x (h : Below w5.heap.size w5 x) => two_ty (w := x) 7 H7.out (BT5.out.later h).says (BU5.out.later h).says (BT5.out.later h).ty (BU5.out.later h).ty)
    have HC2 := Lib.hid (fun x (h : Below w5.heap.size w5 x) => two_ty (w := x) 7 H7.out (BP5.out.later h).says (BQ5.out.later h).says (BP5.out.later h).ty (BQ5.out.later h).ty)
    go_upto_region 4 with fail
    go_cut [11, 12] from 28 (fun v5 v6 wx => ∃ p5 p6 g5 g6, v5 = .pointer (some ⟨p5, 0, none⟩) ∧ v6 = .pointer (some ⟨p6, 0, none⟩) ∧ BoxT wx p5 (.mk 7 0 [t, u]) 7 0 2 (some ⟨g5, 0, none⟩) 2 ∧ BoxT wx p6 (.mk 7 0 [p, q]) 7 0 2 (some ⟨g6, 0, none⟩) 2 ∧ Below w5.heap.size w5 wx)
    case first =>
      as_aux_lemma =>
      obtain ⟨V0, hV0⟩ : ∃ V, w5.drew = V := ⟨_, rfl⟩
      have HS0 := Lib.hid (show Below w5.heap.size w5 V0 by rw [← hV0]; exact (Below.refl _ _).drew)
      refine wp_region_held_drew (S := Below w5.heap.size w5) (by kernel_rfl) (Below.refl _ _).drew (fun _ => ?_)
      rw [hV0]
      clear hV0
      refine wpAnyH_take (i := 0) (oi := ⟨some 28, _, _, _, _, _⟩) (v := ?_) rfl (by kernel_rfl) (by kernel_rfl) (by kernel_rfl) (fun _ _ _ h => h) (Or.inl ⟨by rfl, ?_⟩) HS0.out ?_
      rotate_left
      · (intro xx hSw; obtain ⟨⟨c0, c1, c2⟩, ⟨d0, d1, d2⟩, ⟨e0, e1, e2⟩, ⟨g0, g1, g2⟩⟩ := HCELL.out _ hSw; go_simp; (try with_reducible rfl))
      try simp only [Act.put, List.setIfInBounds_toArray, List.set_cons_zero, List.set_cons_succ]
      refine wpAnyH_take (i := 1) (oi := ⟨some 29, _, _, _, _, _⟩) (v := ?_) rfl (by kernel_rfl) (by kernel_rfl) (by kernel_rfl) (fun _ _ _ h => h) (Or.inl ⟨by rfl, ?_⟩) HS0.out ?_
      rotate_left
      · (intro xx hSw; obtain ⟨⟨c0, c1, c2⟩, ⟨d0, d1, d2⟩, ⟨e0, e1, e2⟩, ⟨g0, g1, g2⟩⟩ := HCELL.out _ hSw; go_simp; (try with_reducible rfl))
      try simp only [Act.put, List.setIfInBounds_toArray, List.set_cons_zero, List.set_cons_succ]
      refine wpAnyH_take (i := 3) (oi := ⟨some 31, _, _, _, _, _⟩) (v := ?_) rfl (by kernel_rfl) (by kernel_rfl) (by kernel_rfl) (fun _ _ _ h => h) (Or.inl ⟨by rfl, ?_⟩) HS0.out ?_
      rotate_left
      · (intro xx hSw; obtain ⟨⟨c0, c1, c2⟩, ⟨d0, d1, d2⟩, ⟨e0, e1, e2⟩, ⟨g0, g1, g2⟩⟩ := HCELL.out _ hSw; go_simp; (try with_reducible rfl))
      try simp only [Act.put, List.setIfInBounds_toArray, List.set_cons_zero, List.set_cons_succ]
      refine wpAnyH_take (i := 4) (oi := ⟨some 32, _, _, _, _, _⟩) (v := ?_) rfl (by kernel_rfl) (by kernel_rfl) (by kernel_rfl) (fun _ _ _ h => h) (Or.inl ⟨by rfl, ?_⟩) HS0.out ?_
      rotate_left
      · (intro xx hSw; obtain ⟨⟨c0, c1, c2⟩, ⟨d0, d1, d2⟩, ⟨e0, e1, e2⟩, ⟨g0, g1, g2⟩⟩ := HCELL.out _ hSw; go_simp; (try with_reducible rfl))
      try simp only [Act.put, List.setIfInBounds_toArray, List.set_cons_zero, List.set_cons_succ]
      refine wpAnyH_ready (rs := [2, 6, 7]) (by kernel_rfl) (by simp) ?_
      refine AllReadyH.cons (o := ⟨some 30, _, _, _, _, _⟩) rfl (fun K hK => ?_) (AllReadyH.cons (o := ⟨some 11, _, _, _, _, _⟩) rfl (fun K hK => ?_) (AllReadyH.cons (o := ⟨some 12, _, _, _, _, _⟩) rfl (fun K hK => ?_) AllReadyH.nil))
      · skip
        go_simp
        refine (HC1.out _ HS0.out).mono ?_
        rintro e V1 ⟨a5, rfl, ht, hb⟩
        have HK0 := Lib.hid hb
        have HS1 := Lib.hid (Go.RowKit.Below.tr HS0.out hb (Nat.le_refl _))
        have HT5 := Lib.hid ht
        clear hb ht
        dsimp only
        refine hK.out _ _ HS1.out (fun _ => ?_)
        clear hK K
        try simp only [Act.put, List.setIfInBounds_toArray, List.set_cons_zero, List.set_cons_succ]
        refine wpAnyH_ready (rs := [5, 6, 7]) (by kernel_rfl) (by simp) ?_
        refine AllReadyH.cons (o := ⟨some 33, _, _, _, _, _⟩) rfl (fun K hK => ?_) (AllReadyH.cons (o := ⟨some 11, _, _, _, _, _⟩) rfl (fun K hK => ?_) (AllReadyH.cons (o := ⟨some 12, _, _, _, _, _⟩) rfl (fun K hK => ?_) AllReadyH.nil))
        · skip
          go_simp
          refine (HC2.out _ HS1.out).mono ?_
          rintro e V2 ⟨a6, rfl, ht, hb⟩
          have HK1 := Lib.hid hb
          have HS2 := Lib.hid (Go.RowKit.Below.tr HS1.out hb (Nat.le_refl _))
          have HT6 := Lib.hid ht
          clear hb ht
          dsimp only
          refine hK.out _ _ HS2.out (fun _ => ?_)
          clear hK K
          try simp only [Act.put, List.setIfInBounds_toArray, List.set_cons_zero, List.set_cons_succ]
          refine wpAnyH_ready (rs := [6, 7]) (by kernel_rfl) (by simp) ?_
          refine AllReadyH.cons (o := ⟨some 11, _, _, _, _, _⟩) rfl (fun K hK => ?_) (AllReadyH.cons (o := ⟨some 12, _, _, _, _, _⟩) rfl (fun K hK => ?_) AllReadyH.nil)
          · skip
            go_simp
            refine hK.out _ _ (HS2.out.alloc HS2.out.size (.cells #[.int .i64 0, .int .i64 0, .slice none 0 0] 24)) (fun _ => ?_)
            clear hK K
            try simp only [Act.put, List.setIfInBounds_toArray, List.set_cons_zero, List.set_cons_succ]
            obtain ⟨V3, hV⟩ : ∃ V, V2.alloc (.cells #[.int .i64 0, .int .i64 0, .slice none 0 0] 24) = V := ⟨_, rfl⟩
            rw [hV]
            have HK2 := Lib.hid (show Below V2.heap.size V2 V3 by rw [← hV]; exact (Below.refl _ _).alloc (Nat.le_refl _) _)
            have HZ5 := Lib.hid (show V3.heap[V2.heap.size]? = some (.cells #[.int .i64 0, .int .i64 0, .slice none 0 0] 24) by rw [← hV]; exact World.alloc_heap_new _ _)
            have HL5 := Lib.hid (show V2.heap.size < V3.heap.size by rw [← hV, World.size_alloc]; omega)
            have HS3 := Lib.hid (Go.RowKit.Below.tr HS2.out HK2.out (Nat.le_refl _))
            clear hV
            refine wpAnyH_ready (rs := [7]) (by kernel_rfl) (by simp) ?_
            refine AllReadyH.cons (o := ⟨some 12, _, _, _, _, _⟩) rfl (fun K hK => ?_) AllReadyH.nil
            go_simp
            refine hK.out _ _ (HS3.out.alloc HS3.out.size (.cells #[.int .i64 0, .int .i64 0, .slice none 0 0] 24)) (fun _ => ?_)
            clear hK K
            try simp only [Act.put, List.setIfInBounds_toArray, List.set_cons_zero, List.set_cons_succ]
            obtain ⟨V4, hV⟩ : ∃ V, V3.alloc (.cells #[.int .i64 0, .int .i64 0, .slice none 0 0] 24) = V := ⟨_, rfl⟩
            rw [hV]
            have HK3 := Lib.hid (show Below V3.heap.size V3 V4 by rw [← hV]; exact (Below.refl _ _).alloc (Nat.le_refl _) _)
            have HZ6 := Lib.hid (show V4.heap[V3.heap.size]? = some (.cells #[.int .i64 0, .int .i64 0, .slice none 0 0] 24) by rw [← hV]; exact World.alloc_heap_new _ _)
            have HL6 := Lib.hid (show V3.heap.size < V4.heap.size by rw [← hV, World.size_alloc]; omega)
            have HS4 := Lib.hid (Go.RowKit.Below.tr HS3.out HK3.out (Nat.le_refl _))
            clear hV
            have z5 := (HK3.out.block _ HL5.out).trans HZ5.out
            have z6 := ((Below.refl V4.heap.size V4).block _ HL6.out).trans HZ6.out
            have hput := fun F hF => put_twoZ (F := F) (k := 7) (n := 0) (l := 2) (k' := 7) (n' := 0) (l' := 2) ⟨rfl, rfl, rfl⟩ ⟨rfl, rfl, rfl⟩ HR5.out HR6.out z5 z6 (ty_later HT5.out (Go.RowKit.Below.tr (Go.RowKit.Below.tr HK1.out HK2.out (Nat.le_refl _)) HK3.out (Nat.le_refl _))) (ty_later HT6.out (Go.RowKit.Below.tr HK2.out HK3.out (Nat.le_refl _))) HS4.out (Nat.le_trans HS0.out.size (by have := HK0.out.size; have := HK1.out.size; have := HK2.out.size; have := HK3.out.size; have := HL5.out; have := HL6.out; omega)) (Nat.le_trans HS0.out.size (by have := HK0.out.size; have := HK1.out.size; have := HK2.out.size; have := HK3.out.size; have := HL5.out; have := HL6.out; omega)) (by have := HK0.out.size; have := HK1.out.size; have := HK2.out.size; have := HK3.out.size; have := HL5.out; have := HL6.out; omega) hF
            have HPUT := Lib.hid hput
            clear hput
            obtain ⟨z50, z51, z52, f50, f51, f52⟩ := zero_three z5
            refine wpAnyH_ready (rs := [8]) (by kernel_rfl) (by simp) ?_
            refine AllReadyH.cons (o := ⟨none, _, _, _, _, _⟩) rfl (fun K hK => ?_) AllReadyH.nil
            go_simp
            refine hK.out _ _ (put_halfZ HS4.out (Nat.le_trans HS0.out.size (by have := HK0.out.size; have := HK1.out.size; have := HK2.out.size; have := HK3.out.size; have := HL5.out; have := HL6.out; omega))) (fun _ => ?_)
            clear hK K
            try simp only [Act.put, List.setIfInBounds_toArray, List.set_cons_zero, List.set_cons_succ]
            clear z50 z51 z52 f50 f51 f52
            have y6 := (set3_other (V := V4) (b := V2.heap.size) (v0 := .int .i64 7) (v1 := .int .i64 0) (v2 := .slice (some ⟨a5, 0, none⟩) 2 2) (k := V3.heap.size) (by have := HK0.out.size; have := HK1.out.size; have := HK2.out.size; have := HK3.out.size; have := HL5.out; have := HL6.out; omega)).trans z6
            obtain ⟨V5, hV5⟩ : ∃ V, ((V4.setCell ⟨V2.heap.size, 0, none⟩ (.int .i64 7)).setCell ⟨V2.heap.size, 1, none⟩ (.int .i64 0)).setCell ⟨V2.heap.size, 2, none⟩ (.slice (some ⟨a5, 0, none⟩) 2 2) = V := ⟨_, rfl⟩
            rw [hV5] at y6 ⊢
            have HPU2 := Lib.hid (HPUT.out _ (by rw [hV5]))
            obtain ⟨z60, z61, z62, f60, f61, f62⟩ := zero_three y6
            refine wpAnyH_ready (rs := [9]) (by kernel_rfl) (by simp) ?_
            refine AllReadyH.cons (o := ⟨none, _, _, _, _, _⟩) rfl (fun K hK => ?_) AllReadyH.nil
            go_simp
            refine hK.out _ _ HPU2.out.2.2 (fun _ => ?_)
            clear hK K
            try simp only [Act.put, List.setIfInBounds_toArray, List.set_cons_zero, List.set_cons_succ]
            refine wpAnyH_done (by kernel_rfl) ?_ _
            go_wp2_with fail
            go_meet
            case rel => exact ⟨_, _, _, _, rfl, rfl, HPU2.out.1, HPU2.out.2.1, HPU2.out.2.2⟩
          · skip
            go_simp
            refine hK.out _ _ (HS2.out.alloc HS2.out.size (.cells #[.int .i64 0, .int .i64 0, .slice none 0 0] 24)) (fun _ => ?_)
            clear hK K
            try simp only [Act.put, List.setIfInBounds_toArray, List.set_cons_zero, List.set_cons_succ]
            obtain ⟨V3, hV⟩ : ∃ V, V2.alloc (.cells #[.int .i64 0, .int .i64 0, .slice none 0 0] 24) = V := ⟨_, rfl⟩
            rw [hV]
            have HK2 := Lib.hid (show Below V2.heap.size V2 V3 by rw [← hV]; exact (Below.refl _ _).alloc (Nat.le_refl _) _)
            have HZ6 := Lib.hid (show V3.heap[V2.heap.size]? = some (.cells #[.int .i64 0, .int .i64 0, .slice none 0 0] 24) by rw [← hV]; exact World.alloc_heap_new _ _)
            have HL6 := Lib.hid (show V2.heap.size < V3.heap.size by rw [← hV, World.size_alloc]; omega)
            have HS3 := Lib.hid (Go.RowKit.Below.tr HS2.out HK2.out (Nat.le_refl _))
            clear hV
            refine wpAnyH_ready (rs := [6]) (by kernel_rfl) (by simp) ?_
            refine AllReadyH.cons (o := ⟨some 11, _, _, _, _, _⟩) rfl (fun K hK => ?_) AllReadyH.nil
            go_simp
            refine hK.out _ _ (HS3.out.alloc HS3.out.size (.cells #[.int .i64 0, .int .i64 0, .slice none 0 0] 24)) (fun _ => ?_)
            clear hK K
            try simp only [Act.put, List.setIfInBounds_toArray, List.set_cons_zero, List.set_cons_succ]
            obtain ⟨V4, hV⟩ : ∃ V, V3.alloc (.cells #[.int .i64 0, .int .i64 0, .slice none 0 0] 24) = V := ⟨_, rfl⟩
            rw [hV]
            have HK3 := Lib.hid (show Below V3.heap.size V3 V4 by rw [← hV]; exact (Below.refl _ _).alloc (Nat.le_refl _) _)
            have HZ5 := Lib.hid (show V4.heap[V3.heap.size]? = some (.cells #[.int .i64 0, .int .i64 0, .slice none 0 0] 24) by rw [← hV]; exact World.alloc_heap_new _ _)
            have HL5 := Lib.hid (show V3.heap.size < V4.heap.size by rw [← hV, World.size_alloc]; omega)
            have HS4 := Lib.hid (Go.RowKit.Below.tr HS3.out HK3.out (Nat.le_refl _))
            clear hV
            have z5 := ((Below.refl V4.heap.size V4).block _ HL5.out).trans HZ5.out
            have z6 := (HK3.out.block _ HL6.out).trans HZ6.out
            have hput := fun F hF => put_twoZ (F := F) (k := 7) (n := 0) (l := 2) (k' := 7) (n' := 0) (l' := 2) ⟨rfl, rfl, rfl⟩ ⟨rfl, rfl, rfl⟩ HR5.out HR6.out z5 z6 (ty_later HT5.out (Go.RowKit.Below.tr (Go.RowKit.Below.tr HK1.out HK2.out (Nat.le_refl _)) HK3.out (Nat.le_refl _))) (ty_later HT6.out (Go.RowKit.Below.tr HK2.out HK3.out (Nat.le_refl _))) HS4.out (Nat.le_trans HS0.out.size (by have := HK0.out.size; have := HK1.out.size; have := HK2.out.size; have := HK3.out.size; have := HL5.out; have := HL6.out; omega)) (Nat.le_trans HS0.out.size (by have := HK0.out.size; have := HK1.out.size; have := HK2.out.size; have := HK3.out.size; have := HL5.out; have := HL6.out; omega)) (by have := HK0.out.size; have := HK1.out.size; have := HK2.out.size; have := HK3.out.size; have := HL5.out; have := HL6.out; omega) hF
            have HPUT := Lib.hid hput
            clear hput
            obtain ⟨z50, z51, z52, f50, f51, f52⟩ := zero_three z5
            refine wpAnyH_ready (rs := [8]) (by kernel_rfl) (by simp) ?_
            refine AllReadyH.cons (o := ⟨none, _, _, _, _, _⟩) rfl (fun K hK => ?_) AllReadyH.nil
            go_simp
            refine hK.out _ _ (put_halfZ HS4.out (Nat.le_trans HS0.out.size (by have := HK0.out.size; have := HK1.out.size; have := HK2.out.size; have := HK3.out.size; have := HL5.out; have := HL6.out; omega))) (fun _ => ?_)
            clear hK K
            try simp only [Act.put, List.setIfInBounds_toArray, List.set_cons_zero, List.set_cons_succ]
            clear z50 z51 z52 f50 f51 f52
            have y6 := (set3_other (V := V4) (b := V3.heap.size) (v0 := .int .i64 7) (v1 := .int .i64 0) (v2 := .slice (some ⟨a5, 0, none⟩) 2 2) (k := V2.heap.size) (by have := HK0.out.size; have := HK1.out.size; have := HK2.out.size; have := HK3.out.size; have := HL5.out; have := HL6.out; omega)).trans z6
            obtain ⟨V5, hV5⟩ : ∃ V, ((V4.setCell ⟨V3.heap.size, 0, none⟩ (.int .i64 7)).setCell ⟨V3.heap.size, 1, none⟩ (.int .i64 0)).setCell ⟨V3.heap.size, 2, none⟩ (.slice (some ⟨a5, 0, none⟩) 2 2) = V := ⟨_, rfl⟩
            rw [hV5] at y6 ⊢
            have HPU2 := Lib.hid (HPUT.out _ (by rw [hV5]))
            obtain ⟨z60, z61, z62, f60, f61, f62⟩ := zero_three y6
            refine wpAnyH_ready (rs := [9]) (by kernel_rfl) (by simp) ?_
            refine AllReadyH.cons (o := ⟨none, _, _, _, _, _⟩) rfl (fun K hK => ?_) AllReadyH.nil
            go_simp
            refine hK.out _ _ HPU2.out.2.2 (fun _ => ?_)
            clear hK K
            try simp only [Act.put, List.setIfInBounds_toArray, List.set_cons_zero, List.set_cons_succ]
            refine wpAnyH_done (by kernel_rfl) ?_ _
            go_wp2_with fail
            go_meet
            case rel => exact ⟨_, _, _, _, rfl, rfl, HPU2.out.1, HPU2.out.2.1, HPU2.out.2.2⟩
        · skip
          go_simp
          refine hK.out _ _ (HS1.out.alloc HS1.out.size (.cells #[.int .i64 0, .int .i64 0, .slice none 0 0] 24)) (fun _ => ?_)
          clear hK K
          try simp only [Act.put, List.setIfInBounds_toArray, List.set_cons_zero, List.set_cons_succ]
          obtain ⟨V2, hV⟩ : ∃ V, V1.alloc (.cells #[.int .i64 0, .int .i64 0, .slice none 0 0] 24) = V := ⟨_, rfl⟩
          rw [hV]
          have HK1 := Lib.hid (show Below V1.heap.size V1 V2 by rw [← hV]; exact (Below.refl _ _).alloc (Nat.le_refl _) _)
          have HZ5 := Lib.hid (show V2.heap[V1.heap.size]? = some (.cells #[.int .i64 0, .int .i64 0, .slice none 0 0] 24) by rw [← hV]; exact World.alloc_heap_new _ _)
          have HL5 := Lib.hid (show V1.heap.size < V2.heap.size by rw [← hV, World.size_alloc]; omega)
          have HS2 := Lib.hid (Go.RowKit.Below.tr HS1.out HK1.out (Nat.le_refl _))
          clear hV
          refine wpAnyH_ready (rs := [5, 7]) (by kernel_rfl) (by simp) ?_
          refine AllReadyH.cons (o := ⟨some 33, _, _, _, _, _⟩) rfl (fun K hK => ?_) (AllReadyH.cons (o := ⟨some 12, _, _, _, _, _⟩) rfl (fun K hK => ?_) AllReadyH.nil)
          · skip
            go_simp
            refine (HC2.out _ HS2.out).mono ?_
            rintro e V3 ⟨a6, rfl, ht, hb⟩
            have HK2 := Lib.hid hb
            have HS3 := Lib.hid (Go.RowKit.Below.tr HS2.out hb (Nat.le_refl _))
            have HT6 := Lib.hid ht
            clear hb ht
            dsimp only
            refine hK.out _ _ HS3.out (fun _ => ?_)
            clear hK K
            try simp only [Act.put, List.setIfInBounds_toArray, List.set_cons_zero, List.set_cons_succ]
            refine wpAnyH_ready (rs := [7]) (by kernel_rfl) (by simp) ?_
            refine AllReadyH.cons (o := ⟨some 12, _, _, _, _, _⟩) rfl (fun K hK => ?_) AllReadyH.nil
            go_simp
            refine hK.out _ _ (HS3.out.alloc HS3.out.size (.cells #[.int .i64 0, .int .i64 0, .slice none 0 0] 24)) (fun _ => ?_)
            clear hK K
            try simp only [Act.put, List.setIfInBounds_toArray, List.set_cons_zero, List.set_cons_succ]
            obtain ⟨V4, hV⟩ : ∃ V, V3.alloc (.cells #[.int .i64 0, .int .i64 0, .slice none 0 0] 24) = V := ⟨_, rfl⟩
            rw [hV]
            have HK3 := Lib.hid (show Below V3.heap.size V3 V4 by rw [← hV]; exact (Below.refl _ _).alloc (Nat.le_refl _) _)
            have HZ6 := Lib.hid (show V4.heap[V3.heap.size]? = some (.cells #[.int .i64 0, .int .i64 0, .slice none 0 0] 24) by rw [← hV]; exact World.alloc_heap_new _ _)
            have HL6 := Lib.hid (show V3.heap.size < V4.heap.size by rw [← hV, World.size_alloc]; omega)
            have HS4 := Lib.hid (Go.RowKit.Below.tr HS3.out HK3.out (Nat.le_refl _))
            clear hV
            have z5 := ((Go.RowKit.Below.tr HK2.out HK3.out (Nat.le_refl _)).block _ HL5.out).trans HZ5.out
            have z6 := ((Below.refl V4.heap.size V4).block _ HL6.out).trans HZ6.out
            have hput := fun F hF => put_twoZ (F := F) (k := 7) (n := 0) (l := 2) (k' := 7) (n' := 0) (l' := 2) ⟨rfl, rfl, rfl⟩ ⟨rfl, rfl, rfl⟩ HR5.out HR6.out z5 z6 (ty_later HT5.out (Go.RowKit.Below.tr (Go.RowKit.Below.tr HK1.out HK2.out (Nat.le_refl _)) HK3.out (Nat.le_refl _))) (ty_later HT6.out HK3.out) HS4.out (Nat.le_trans HS0.out.size (by have := HK0.out.size; have := HK1.out.size; have := HK2.out.size; have := HK3.out.size; have := HL5.out; have := HL6.out; omega)) (Nat.le_trans HS0.out.size (by have := HK0.out.size; have := HK1.out.size; have := HK2.out.size; have := HK3.out.size; have := HL5.out; have := HL6.out; omega)) (by have := HK0.out.size; have := HK1.out.size; have := HK2.out.size; have := HK3.out.size; have := HL5.out; have := HL6.out; omega) hF
            have HPUT := Lib.hid hput
            clear hput
            obtain ⟨z50, z51, z52, f50, f51, f52⟩ := zero_three z5
            refine wpAnyH_ready (rs := [8]) (by kernel_rfl) (by simp) ?_
            refine AllReadyH.cons (o := ⟨none, _, _, _, _, _⟩) rfl (fun K hK => ?_) AllReadyH.nil
            go_simp
            refine hK.out _ _ (put_halfZ HS4.out (Nat.le_trans HS0.out.size (by have := HK0.out.size; have := HK1.out.size; have := HK2.out.size; have := HK3.out.size; have := HL5.out; have := HL6.out; omega))) (fun _ => ?_)
            clear hK K
            try simp only [Act.put, List.setIfInBounds_toArray, List.set_cons_zero, List.set_cons_succ]
            clear z50 z51 z52 f50 f51 f52
            have y6 := (set3_other (V := V4) (b := V1.heap.size) (v0 := .int .i64 7) (v1 := .int .i64 0) (v2 := .slice (some ⟨a5, 0, none⟩) 2 2) (k := V3.heap.size) (by have := HK0.out.size; have := HK1.out.size; have := HK2.out.size; have := HK3.out.size; have := HL5.out; have := HL6.out; omega)).trans z6
            obtain ⟨V5, hV5⟩ : ∃ V, ((V4.setCell ⟨V1.heap.size, 0, none⟩ (.int .i64 7)).setCell ⟨V1.heap.size, 1, none⟩ (.int .i64 0)).setCell ⟨V1.heap.size, 2, none⟩ (.slice (some ⟨a5, 0, none⟩) 2 2) = V := ⟨_, rfl⟩
            rw [hV5] at y6 ⊢
            have HPU2 := Lib.hid (HPUT.out _ (by rw [hV5]))
            obtain ⟨z60, z61, z62, f60, f61, f62⟩ := zero_three y6
            refine wpAnyH_ready (rs := [9]) (by kernel_rfl) (by simp) ?_
            refine AllReadyH.cons (o := ⟨none, _, _, _, _, _⟩) rfl (fun K hK => ?_) AllReadyH.nil
            go_simp
            refine hK.out _ _ HPU2.out.2.2 (fun _ => ?_)
            clear hK K
            try simp only [Act.put, List.setIfInBounds_toArray, List.set_cons_zero, List.set_cons_succ]
            refine wpAnyH_done (by kernel_rfl) ?_ _
            go_wp2_with fail
            go_meet
            case rel => exact ⟨_, _, _, _, rfl, rfl, HPU2.out.1, HPU2.out.2.1, HPU2.out.2.2⟩
          · skip
            go_simp
            refine hK.out _ _ (HS2.out.alloc HS2.out.size (.cells #[.int .i64 0, .int .i64 0, .slice none 0 0] 24)) (fun _ => ?_)
            clear hK K
            try simp only [Act.put, List.setIfInBounds_toArray, List.set_cons_zero, List.set_cons_succ]
            obtain ⟨V3, hV⟩ : ∃ V, V2.alloc (.cells #[.int .i64 0, .int .i64 0, .slice none 0 0] 24) = V := ⟨_, rfl⟩
            rw [hV]
            have HK2 := Lib.hid (show Below V2.heap.size V2 V3 by rw [← hV]; exact (Below.refl _ _).alloc (Nat.le_refl _) _)
            have HZ6 := Lib.hid (show V3.heap[V2.heap.size]? = some (.cells #[.int .i64 0, .int .i64 0, .slice none 0 0] 24) by rw [← hV]; exact World.alloc_heap_new _ _)
            have HL6 := Lib.hid (show V2.heap.size < V3.heap.size by rw [← hV, World.size_alloc]; omega)
            have HS3 := Lib.hid (Go.RowKit.Below.tr HS2.out HK2.out (Nat.le_refl _))
            clear hV
            refine wpAnyH_ready (rs := [5]) (by kernel_rfl) (by simp) ?_
            refine AllReadyH.cons (o := ⟨some 33, _, _, _, _, _⟩) rfl (fun K hK => ?_) AllReadyH.nil
            go_simp
            refine (HC2.out _ HS3.out).mono ?_
            rintro e V4 ⟨a6, rfl, ht, hb⟩
            have HK3 := Lib.hid hb
            have HS4 := Lib.hid (Go.RowKit.Below.tr HS3.out hb (Nat.le_refl _))
            have HT6 := Lib.hid ht
            clear hb ht
            dsimp only
            refine hK.out _ _ HS4.out (fun _ => ?_)
            clear hK K
            try simp only [Act.put, List.setIfInBounds_toArray, List.set_cons_zero, List.set_cons_succ]
            have z5 := ((Go.RowKit.Below.tr HK2.out HK3.out (Nat.le_refl _)).block _ HL5.out).trans HZ5.out
            have z6 := (HK3.out.block _ HL6.out).trans HZ6.out
            have hput := fun F hF => put_twoZ (F := F) (k := 7) (n := 0) (l := 2) (k' := 7) (n' := 0) (l' := 2) ⟨rfl, rfl, rfl⟩ ⟨rfl, rfl, rfl⟩ HR5.out HR6.out z5 z6 (ty_later HT5.out (Go.RowKit.Below.tr (Go.RowKit.Below.tr HK1.out HK2.out (Nat.le_refl _)) HK3.out (Nat.le_refl _))) (ty_later HT6.out (Below.refl V4.heap.size V4)) HS4.out (Nat.le_trans HS0.out.size (by have := HK0.out.size; have := HK1.out.size; have := HK2.out.size; have := HK3.out.size; have := HL5.out; have := HL6.out; omega)) (Nat.le_trans HS0.out.size (by have := HK0.out.size; have := HK1.out.size; have := HK2.out.size; have := HK3.out.size; have := HL5.out; have := HL6.out; omega)) (by have := HK0.out.size; have := HK1.out.size; have := HK2.out.size; have := HK3.out.size; have := HL5.out; have := HL6.out; omega) hF
            have HPUT := Lib.hid hput
            clear hput
            obtain ⟨z50, z51, z52, f50, f51, f52⟩ := zero_three z5
            refine wpAnyH_ready (rs := [8]) (by kernel_rfl) (by simp) ?_
            refine AllReadyH.cons (o := ⟨none, _, _, _, _, _⟩) rfl (fun K hK => ?_) AllReadyH.nil
            go_simp
            refine hK.out _ _ (put_halfZ HS4.out (Nat.le_trans HS0.out.size (by have := HK0.out.size; have := HK1.out.size; have := HK2.out.size; have := HK3.out.size; have := HL5.out; have := HL6.out; omega))) (fun _ => ?_)
            clear hK K
            try simp only [Act.put, List.setIfInBounds_toArray, List.set_cons_zero, List.set_cons_succ]
            clear z50 z51 z52 f50 f51 f52
            have y6 := (set3_other (V := V4) (b := V1.heap.size) (v0 := .int .i64 7) (v1 := .int .i64 0) (v2 := .slice (some ⟨a5, 0, none⟩) 2 2) (k := V2.heap.size) (by have := HK0.out.size; have := HK1.out.size; have := HK2.out.size; have := HK3.out.size; have := HL5.out; have := HL6.out; omega)).trans z6
            obtain ⟨V5, hV5⟩ : ∃ V, ((V4.setCell ⟨V1.heap.size, 0, none⟩ (.int .i64 7)).setCell ⟨V1.heap.size, 1, none⟩ (.int .i64 0)).setCell ⟨V1.heap.size, 2, none⟩ (.slice (some ⟨a5, 0, none⟩) 2 2) = V := ⟨_, rfl⟩
            rw [hV5] at y6 ⊢
            have HPU2 := Lib.hid (HPUT.out _ (by rw [hV5]))
            obtain ⟨z60, z61, z62, f60, f61, f62⟩ := zero_three y6
            refine wpAnyH_ready (rs := [9]) (by kernel_rfl) (by simp) ?_
            refine AllReadyH.cons (o := ⟨none, _, _, _, _, _⟩) rfl (fun K hK => ?_) AllReadyH.nil
            go_simp
            refine hK.out _ _ HPU2.out.2.2 (fun _ => ?_)
            clear hK K
            try simp only [Act.put, List.setIfInBounds_toArray, List.set_cons_zero, List.set_cons_succ]
            refine wpAnyH_done (by kernel_rfl) ?_ _
            go_wp2_with fail
            go_meet
            case rel => exact ⟨_, _, _, _, rfl, rfl, HPU2.out.1, HPU2.out.2.1, HPU2.out.2.2⟩
        · skip
          go_simp
          refine hK.out _ _ (HS1.out.alloc HS1.out.size (.cells #[.int .i64 0, .int .i64 0, .slice none 0 0] 24)) (fun _ => ?_)
          clear hK K
          try simp only [Act.put, List.setIfInBounds_toArray, List.set_cons_zero, List.set_cons_succ]
          obtain ⟨V2, hV⟩ : ∃ V, V1.alloc (.cells #[.int .i64 0, .int .i64 0, .slice none 0 0] 24) = V := ⟨_, rfl⟩
          rw [hV]
          have HK1 := Lib.hid (show Below V1.heap.size V1 V2 by rw [← hV]; exact (Below.refl _ _).alloc (Nat.le_refl _) _)
          have HZ6 := Lib.hid (show V2.heap[V1.heap.size]? = some (.cells #[.int .i64 0, .int .i64 0, .slice none 0 0] 24) by rw [← hV]; exact World.alloc_heap_new _ _)
          have HL6 := Lib.hid (show V1.heap.size < V2.heap.size by rw [← hV, World.size_alloc]; omega)
          have HS2 := Lib.hid (Go.RowKit.Below.tr HS1.out HK1.out (Nat.le_refl _))
          clear hV
          refine wpAnyH_ready (rs := [5, 6]) (by kernel_rfl) (by simp) ?_
          refine AllReadyH.cons (o := ⟨some 33, _, _, _, _, _⟩) rfl (fun K hK => ?_) (AllReadyH.cons (o := ⟨some 11, _, _, _, _, _⟩) rfl (fun K hK => ?_) AllReadyH.nil)
          · skip
            go_simp
            refine (HC2.out _ HS2.out).mono ?_
            rintro e V3 ⟨a6, rfl, ht, hb⟩
            have HK2 := Lib.hid hb
            have HS3 := Lib.hid (Go.RowKit.Below.tr HS2.out hb (Nat.le_refl _))
            have HT6 := Lib.hid ht
            clear hb ht
            dsimp only
            refine hK.out _ _ HS3.out (fun _ => ?_)
            clear hK K
            try simp only [Act.put, List.setIfInBounds_toArray, List.set_cons_zero, List.set_cons_succ]
            refine wpAnyH_ready (rs := [6]) (by kernel_rfl) (by simp) ?_
            refine AllReadyH.cons (o := ⟨some 11, _, _, _, _, _⟩) rfl (fun K hK => ?_) AllReadyH.nil
            go_simp
            refine hK.out _ _ (HS3.out.alloc HS3.out.size (.cells #[.int .i64 0, .int .i64 0, .slice none 0 0] 24)) (fun _ => ?_)
            clear hK K
            try simp only [Act.put, List.setIfInBounds_toArray, List.set_cons_zero, List.set_cons_succ]
            obtain ⟨V4, hV⟩ : ∃ V, V3.alloc (.cells #[.int .i64 0, .int .i64 0, .slice none 0 0] 24) = V := ⟨_, rfl⟩
            rw [hV]
            have HK3 := Lib.hid (show Below V3.heap.size V3 V4 by rw [← hV]; exact (Below.refl _ _).alloc (Nat.le_refl _) _)
            have HZ5 := Lib.hid (show V4.heap[V3.heap.size]? = some (.cells #[.int .i64 0, .int .i64 0, .slice none 0 0] 24) by rw [← hV]; exact World.alloc_heap_new _ _)
            have HL5 := Lib.hid (show V3.heap.size < V4.heap.size by rw [← hV, World.size_alloc]; omega)
            have HS4 := Lib.hid (Go.RowKit.Below.tr HS3.out HK3.out (Nat.le_refl _))
            clear hV
            have z5 := ((Below.refl V4.heap.size V4).block _ HL5.out).trans HZ5.out
            have z6 := ((Go.RowKit.Below.tr HK2.out HK3.out (Nat.le_refl _)).block _ HL6.out).trans HZ6.out
            have hput := fun F hF => put_twoZ (F := F) (k := 7) (n := 0) (l := 2) (k' := 7) (n' := 0) (l' := 2) ⟨rfl, rfl, rfl⟩ ⟨rfl, rfl, rfl⟩ HR5.out HR6.out z5 z6 (ty_later HT5.out (Go.RowKit.Below.tr (Go.RowKit.Below.tr HK1.out HK2.out (Nat.le_refl _)) HK3.out (Nat.le_refl _))) (ty_later HT6.out HK3.out) HS4.out (Nat.le_trans HS0.out.size (by have := HK0.out.size; have := HK1.out.size; have := HK2.out.size; have := HK3.out.size; have := HL5.out; have := HL6.out; omega)) (Nat.le_trans HS0.out.size (by have := HK0.out.size; have := HK1.out.size; have := HK2.out.size; have := HK3.out.size; have := HL5.out; have := HL6.out; omega)) (by have := HK0.out.size; have := HK1.out.size; have := HK2.out.size; have := HK3.out.size; have := HL5.out; have := HL6.out; omega) hF
            have HPUT := Lib.hid hput
            clear hput
            obtain ⟨z50, z51, z52, f50, f51, f52⟩ := zero_three z5
            refine wpAnyH_ready (rs := [8]) (by kernel_rfl) (by simp) ?_
            refine AllReadyH.cons (o := ⟨none, _, _, _, _, _⟩) rfl (fun K hK => ?_) AllReadyH.nil
            go_simp
            refine hK.out _ _ (put_halfZ HS4.out (Nat.le_trans HS0.out.size (by have := HK0.out.size; have := HK1.out.size; have := HK2.out.size; have := HK3.out.size; have := HL5.out; have := HL6.out; omega))) (fun _ => ?_)
            clear hK K
            try simp only [Act.put, List.setIfInBounds_toArray, List.set_cons_zero, List.set_cons_succ]
            clear z50 z51 z52 f50 f51 f52
            have y6 := (set3_other (V := V4) (b := V3.heap.size) (v0 := .int .i64 7) (v1 := .int .i64 0) (v2 := .slice (some ⟨a5, 0, none⟩) 2 2) (k := V1.heap.size) (by have := HK0.out.size; have := HK1.out.size; have := HK2.out.size; have := HK3.out.size; have := HL5.out; have := HL6.out; omega)).trans z6
            obtain ⟨V5, hV5⟩ : ∃ V, ((V4.setCell ⟨V3.heap.size, 0, none⟩ (.int .i64 7)).setCell ⟨V3.heap.size, 1, none⟩ (.int .i64 0)).setCell ⟨V3.heap.size, 2, none⟩ (.slice (some ⟨a5, 0, none⟩) 2 2) = V := ⟨_, rfl⟩
            rw [hV5] at y6 ⊢
            have HPU2 := Lib.hid (HPUT.out _ (by rw [hV5]))
            obtain ⟨z60, z61, z62, f60, f61, f62⟩ := zero_three y6
            refine wpAnyH_ready (rs := [9]) (by kernel_rfl) (by simp) ?_
            refine AllReadyH.cons (o := ⟨none, _, _, _, _, _⟩) rfl (fun K hK => ?_) AllReadyH.nil
            go_simp
            refine hK.out _ _ HPU2.out.2.2 (fun _ => ?_)
            clear hK K
            try simp only [Act.put, List.setIfInBounds_toArray, List.set_cons_zero, List.set_cons_succ]
            refine wpAnyH_done (by kernel_rfl) ?_ _
            go_wp2_with fail
            go_meet
            case rel => exact ⟨_, _, _, _, rfl, rfl, HPU2.out.1, HPU2.out.2.1, HPU2.out.2.2⟩
          · skip
            go_simp
            refine hK.out _ _ (HS2.out.alloc HS2.out.size (.cells #[.int .i64 0, .int .i64 0, .slice none 0 0] 24)) (fun _ => ?_)
            clear hK K
            try simp only [Act.put, List.setIfInBounds_toArray, List.set_cons_zero, List.set_cons_succ]
            obtain ⟨V3, hV⟩ : ∃ V, V2.alloc (.cells #[.int .i64 0, .int .i64 0, .slice none 0 0] 24) = V := ⟨_, rfl⟩
            rw [hV]
            have HK2 := Lib.hid (show Below V2.heap.size V2 V3 by rw [← hV]; exact (Below.refl _ _).alloc (Nat.le_refl _) _)
            have HZ5 := Lib.hid (show V3.heap[V2.heap.size]? = some (.cells #[.int .i64 0, .int .i64 0, .slice none 0 0] 24) by rw [← hV]; exact World.alloc_heap_new _ _)
            have HL5 := Lib.hid (show V2.heap.size < V3.heap.size by rw [← hV, World.size_alloc]; omega)
            have HS3 := Lib.hid (Go.RowKit.Below.tr HS2.out HK2.out (Nat.le_refl _))
            clear hV
            refine wpAnyH_ready (rs := [5]) (by kernel_rfl) (by simp) ?_
            refine AllReadyH.cons (o := ⟨some 33, _, _, _, _, _⟩) rfl (fun K hK => ?_) AllReadyH.nil
            go_simp
            refine (HC2.out _ HS3.out).mono ?_
            rintro e V4 ⟨a6, rfl, ht, hb⟩
            have HK3 := Lib.hid hb
            have HS4 := Lib.hid (Go.RowKit.Below.tr HS3.out hb (Nat.le_refl _))
            have HT6 := Lib.hid ht
            clear hb ht
            dsimp only
            refine hK.out _ _ HS4.out (fun _ => ?_)
            clear hK K
            try simp only [Act.put, List.setIfInBounds_toArray, List.set_cons_zero, List.set_cons_succ]
            have z5 := (HK3.out.block _ HL5.out).trans HZ5.out
            have z6 := ((Go.RowKit.Below.tr HK2.out HK3.out (Nat.le_refl _)).block _ HL6.out).trans HZ6.out
            have hput := fun F hF => put_twoZ (F := F) (k := 7) (n := 0) (l := 2) (k' := 7) (n' := 0) (l' := 2) ⟨rfl, rfl, rfl⟩ ⟨rfl, rfl, rfl⟩ HR5.out HR6.out z5 z6 (ty_later HT5.out (Go.RowKit.Below.tr (Go.RowKit.Below.tr HK1.out HK2.out (Nat.le_refl _)) HK3.out (Nat.le_refl _))) (ty_later HT6.out (Below.refl V4.heap.size V4)) HS4.out (Nat.le_trans HS0.out.size (by have := HK0.out.size; have := HK1.out.size; have := HK2.out.size; have := HK3.out.size; have := HL5.out; have := HL6.out; omega)) (Nat.le_trans HS0.out.size (by have := HK0.out.size; have := HK1.out.size; have := HK2.out.size; have := HK3.out.size; have := HL5.out; have := HL6.out; omega)) (by have := HK0.out.size; have := HK1.out.size; have := HK2.out.size; have := HK3.out.size; have := HL5.out; have := HL6.out; omega) hF
            have HPUT := Lib.hid hput
            clear hput
            obtain ⟨z50, z51, z52, f50, f51, f52⟩ := zero_three z5
            refine wpAnyH_ready (rs := [8]) (by kernel_rfl) (by simp) ?_
            refine AllReadyH.cons (o := ⟨none, _, _, _, _, _⟩) rfl (fun K hK => ?_) AllReadyH.nil
            go_simp
            refine hK.out _ _ (put_halfZ HS4.out (Nat.le_trans HS0.out.size (by have := HK0.out.size; have := HK1.out.size; have := HK2.out.size; have := HK3.out.size; have := HL5.out; have := HL6.out; omega))) (fun _ => ?_)
            clear hK K
            try simp only [Act.put, List.setIfInBounds_toArray, List.set_cons_zero, List.set_cons_succ]
            clear z50 z51 z52 f50 f51 f52
            have y6 := (set3_other (V := V4) (b := V2.heap.size) (v0 := .int .i64 7) (v1 := .int .i64 0) (v2 := .slice (some ⟨a5, 0, none⟩) 2 2) (k := V1.heap.size) (by have := HK0.out.size; have := HK1.out.size; have := HK2.out.size; have := HK3.out.size; have := HL5.out; have := HL6.out; omega)).trans z6
            obtain ⟨V5, hV5⟩ : ∃ V, ((V4.setCell ⟨V2.heap.size, 0, none⟩ (.int .i64 7)).setCell ⟨V2.heap.size, 1, none⟩ (.int .i64 0)).setCell ⟨V2.heap.size, 2, none⟩ (.slice (some ⟨a5, 0, none⟩) 2 2) = V := ⟨_, rfl⟩
            rw [hV5] at y6 ⊢
            have HPU2 := Lib.hid (HPUT.out _ (by rw [hV5]))
            obtain ⟨z60, z61, z62, f60, f61, f62⟩ := zero_three y6
            refine wpAnyH_ready (rs := [9]) (by kernel_rfl) (by simp) ?_
            refine AllReadyH.cons (o := ⟨none, _, _, _, _, _⟩) rfl (fun K hK => ?_) AllReadyH.nil
            go_simp
            refine hK.out _ _ HPU2.out.2.2 (fun _ => ?_)
            clear hK K
            try simp only [Act.put, List.setIfInBounds_toArray, List.set_cons_zero, List.set_cons_succ]
            refine wpAnyH_done (by kernel_rfl) ?_ _
            go_wp2_with fail
            go_meet
            case rel => exact ⟨_, _, _, _, rfl, rfl, HPU2.out.1, HPU2.out.2.1, HPU2.out.2.2⟩
      · skip
        go_simp
        refine hK.out _ _ (HS0.out.alloc HS0.out.size (.cells #[.int .i64 0, .int .i64 0, .slice none 0 0] 24)) (fun _ => ?_)
        clear hK K
        try simp only [Act.put, List.setIfInBounds_toArray, List.set_cons_zero, List.set_cons_succ]
        obtain ⟨V1, hV⟩ : ∃ V, V0.alloc (.cells #[.int .i64 0, .int .i64 0, .slice none 0 0] 24) = V := ⟨_, rfl⟩
        rw [hV]
        have HK0 := Lib.hid (show Below V0.heap.size V0 V1 by rw [← hV]; exact (Below.refl _ _).alloc (Nat.le_refl _) _)
        have HZ5 := Lib.hid (show V1.heap[V0.heap.size]? = some (.cells #[.int .i64 0, .int .i64 0, .slice none 0 0] 24) by rw [← hV]; exact World.alloc_heap_new _ _)
        have HL5 := Lib.hid (show V0.heap.size < V1.heap.size by rw [← hV, World.size_alloc]; omega)
        have HS1 := Lib.hid (Go.RowKit.Below.tr HS0.out HK0.out (Nat.le_refl _))
        clear hV
        refine wpAnyH_ready (rs := [2, 7]) (by kernel_rfl) (by simp) ?_
        refine AllReadyH.cons (o := ⟨some 30, _, _, _, _, _⟩) rfl (fun K hK => ?_) (AllReadyH.cons (o := ⟨some 12, _, _, _, _, _⟩) rfl (fun K hK => ?_) AllReadyH.nil)
        · skip
          go_simp
          refine (HC1.out _ HS1.out).mono ?_
          rintro e V2 ⟨a5, rfl, ht, hb⟩
          have HK1 := Lib.hid hb
          have HS2 := Lib.hid (Go.RowKit.Below.tr HS1.out hb (Nat.le_refl _))
          have HT5 := Lib.hid ht
          clear hb ht
          dsimp only
          refine hK.out _ _ HS2.out (fun _ => ?_)
          clear hK K
          try simp only [Act.put, List.setIfInBounds_toArray, List.set_cons_zero, List.set_cons_succ]
          refine wpAnyH_ready (rs := [5, 7]) (by kernel_rfl) (by simp) ?_
          refine AllReadyH.cons (o := ⟨some 33, _, _, _, _, _⟩) rfl (fun K hK => ?_) (AllReadyH.cons (o := ⟨some 12, _, _, _, _, _⟩) rfl (fun K hK => ?_) AllReadyH.nil)
          · skip
            go_simp
            refine (HC2.out _ HS2.out).mono ?_
            rintro e V3 ⟨a6, rfl, ht, hb⟩
            have HK2 := Lib.hid hb
            have HS3 := Lib.hid (Go.RowKit.Below.tr HS2.out hb (Nat.le_refl _))
            have HT6 := Lib.hid ht
            clear hb ht
            dsimp only
            refine hK.out _ _ HS3.out (fun _ => ?_)
            clear hK K
            try simp only [Act.put, List.setIfInBounds_toArray, List.set_cons_zero, List.set_cons_succ]
            refine wpAnyH_ready (rs := [7]) (by kernel_rfl) (by simp) ?_
            refine AllReadyH.cons (o := ⟨some 12, _, _, _, _, _⟩) rfl (fun K hK => ?_) AllReadyH.nil
            go_simp
            refine hK.out _ _ (HS3.out.alloc HS3.out.size (.cells #[.int .i64 0, .int .i64 0, .slice none 0 0] 24)) (fun _ => ?_)
            clear hK K
            try simp only [Act.put, List.setIfInBounds_toArray, List.set_cons_zero, List.set_cons_succ]
            obtain ⟨V4, hV⟩ : ∃ V, V3.alloc (.cells #[.int .i64 0, .int .i64 0, .slice none 0 0] 24) = V := ⟨_, rfl⟩
            rw [hV]
            have HK3 := Lib.hid (show Below V3.heap.size V3 V4 by rw [← hV]; exact (Below.refl _ _).alloc (Nat.le_refl _) _)
            have HZ6 := Lib.hid (show V4.heap[V3.heap.size]? = some (.cells #[.int .i64 0, .int .i64 0, .slice none 0 0] 24) by rw [← hV]; exact World.alloc_heap_new _ _)
            have HL6 := Lib.hid (show V3.heap.size < V4.heap.size by rw [← hV, World.size_alloc]; omega)
            have HS4 := Lib.hid (Go.RowKit.Below.tr HS3.out HK3.out (Nat.le_refl _))
            clear hV
            have z5 := ((Go.RowKit.Below.tr (Go.RowKit.Below.tr HK1.out HK2.out (Nat.le_refl _)) HK3.out (Nat.le_refl _)).block _ HL5.out).trans HZ5.out
            have z6 := ((Below.refl V4.heap.size V4).block _ HL6.out).trans HZ6.out
            have hput := fun F hF => put_twoZ (F := F) (k := 7) (n := 0) (l := 2) (k' := 7) (n' := 0) (l' := 2) ⟨rfl, rfl, rfl⟩ ⟨rfl, rfl, rfl⟩ HR5.out HR6.out z5 z6 (ty_later HT5.out (Go.RowKit.Below.tr HK2.out HK3.out (Nat.le_refl _))) (ty_later HT6.out HK3.out) HS4.out (Nat.le_trans HS0.out.size (by have := HK0.out.size; have := HK1.out.size; have := HK2.out.size; have := HK3.out.size; have := HL5.out; have := HL6.out; omega)) (Nat.le_trans HS0.out.size (by have := HK0.out.size; have := HK1.out.size; have := HK2.out.size; have := HK3.out.size; have := HL5.out; have := HL6.out; omega)) (by have := HK0.out.size; have := HK1.out.size; have := HK2.out.size; have := HK3.out.size; have := HL5.out; have := HL6.out; omega) hF
            have HPUT := Lib.hid hput
            clear hput
            obtain ⟨z50, z51, z52, f50, f51, f52⟩ := zero_three z5
            refine wpAnyH_ready (rs := [8]) (by kernel_rfl) (by simp) ?_
            refine AllReadyH.cons (o := ⟨none, _, _, _, _, _⟩) rfl (fun K hK => ?_) AllReadyH.nil
            go_simp
            refine hK.out _ _ (put_halfZ HS4.out (Nat.le_trans HS0.out.size (by have := HK0.out.size; have := HK1.out.size; have := HK2.out.size; have := HK3.out.size; have := HL5.out; have := HL6.out; omega))) (fun _ => ?_)
            clear hK K
            try simp only [Act.put, List.setIfInBounds_toArray, List.set_cons_zero, List.set_cons_succ]
            clear z50 z51 z52 f50 f51 f52
            have y6 := (set3_other (V := V4) (b := V0.heap.size) (v0 := .int .i64 7) (v1 := .int .i64 0) (v2 := .slice (some ⟨a5, 0, none⟩) 2 2) (k := V3.heap.size) (by have := HK0.out.size; have := HK1.out.size; have := HK2.out.size; have := HK3.out.size; have := HL5.out; have := HL6.out; omega)).trans z6
            obtain ⟨V5, hV5⟩ : ∃ V, ((V4.setCell ⟨V0.heap.size, 0, none⟩ (.int .i64 7)).setCell ⟨V0.heap.size, 1, none⟩ (.int .i64 0)).setCell ⟨V0.heap.size, 2, none⟩ (.slice (some ⟨a5, 0, none⟩) 2 2) = V := ⟨_, rfl⟩
            rw [hV5] at y6 ⊢
            have HPU2 := Lib.hid (HPUT.out _ (by rw [hV5]))
            obtain ⟨z60, z61, z62, f60, f61, f62⟩ := zero_three y6
            refine wpAnyH_ready (rs := [9]) (by kernel_rfl) (by simp) ?_
            refine AllReadyH.cons (o := ⟨none, _, _, _, _, _⟩) rfl (fun K hK => ?_) AllReadyH.nil
            go_simp
            refine hK.out _ _ HPU2.out.2.2 (fun _ => ?_)
            clear hK K
            try simp only [Act.put, List.setIfInBounds_toArray, List.set_cons_zero, List.set_cons_succ]
            refine wpAnyH_done (by kernel_rfl) ?_ _
            go_wp2_with fail
            go_meet
            case rel => exact ⟨_, _, _, _, rfl, rfl, HPU2.out.1, HPU2.out.2.1, HPU2.out.2.2⟩
          · skip
            go_simp
            refine hK.out _ _ (HS2.out.alloc HS2.out.size (.cells #[.int .i64 0, .int .i64 0, .slice none 0 0] 24)) (fun _ => ?_)
            clear hK K
            try simp only [Act.put, List.setIfInBounds_toArray, List.set_cons_zero, List.set_cons_succ]
            obtain ⟨V3, hV⟩ : ∃ V, V2.alloc (.cells #[.int .i64 0, .int .i64 0, .slice none 0 0] 24) = V := ⟨_, rfl⟩
            rw [hV]
            have HK2 := Lib.hid (show Below V2.heap.size V2 V3 by rw [← hV]; exact (Below.refl _ _).alloc (Nat.le_refl _) _)
            have HZ6 := Lib.hid (show V3.heap[V2.heap.size]? = some (.cells #[.int .i64 0, .int .i64 0, .slice none 0 0] 24) by rw [← hV]; exact World.alloc_heap_new _ _)
            have HL6 := Lib.hid (show V2.heap.size < V3.heap.size by rw [← hV, World.size_alloc]; omega)
            have HS3 := Lib.hid (Go.RowKit.Below.tr HS2.out HK2.out (Nat.le_refl _))
            clear hV
            refine wpAnyH_ready (rs := [5]) (by kernel_rfl) (by simp) ?_
            refine AllReadyH.cons (o := ⟨some 33, _, _, _, _, _⟩) rfl (fun K hK => ?_) AllReadyH.nil
            go_simp
            refine (HC2.out _ HS3.out).mono ?_
            rintro e V4 ⟨a6, rfl, ht, hb⟩
            have HK3 := Lib.hid hb
            have HS4 := Lib.hid (Go.RowKit.Below.tr HS3.out hb (Nat.le_refl _))
            have HT6 := Lib.hid ht
            clear hb ht
            dsimp only
            refine hK.out _ _ HS4.out (fun _ => ?_)
            clear hK K
            try simp only [Act.put, List.setIfInBounds_toArray, List.set_cons_zero, List.set_cons_succ]
            have z5 := ((Go.RowKit.Below.tr (Go.RowKit.Below.tr HK1.out HK2.out (Nat.le_refl _)) HK3.out (Nat.le_refl _)).block _ HL5.out).trans HZ5.out
            have z6 := (HK3.out.block _ HL6.out).trans HZ6.out
            have hput := fun F hF => put_twoZ (F := F) (k := 7) (n := 0) (l := 2) (k' := 7) (n' := 0) (l' := 2) ⟨rfl, rfl, rfl⟩ ⟨rfl, rfl, rfl⟩ HR5.out HR6.out z5 z6 (ty_later HT5.out (Go.RowKit.Below.tr HK2.out HK3.out (Nat.le_refl _))) (ty_later HT6.out (Below.refl V4.heap.size V4)) HS4.out (Nat.le_trans HS0.out.size (by have := HK0.out.size; have := HK1.out.size; have := HK2.out.size; have := HK3.out.size; have := HL5.out; have := HL6.out; omega)) (Nat.le_trans HS0.out.size (by have := HK0.out.size; have := HK1.out.size; have := HK2.out.size; have := HK3.out.size; have := HL5.out; have := HL6.out; omega)) (by have := HK0.out.size; have := HK1.out.size; have := HK2.out.size; have := HK3.out.size; have := HL5.out; have := HL6.out; omega) hF
            have HPUT := Lib.hid hput
            clear hput
            obtain ⟨z50, z51, z52, f50, f51, f52⟩ := zero_three z5
            refine wpAnyH_ready (rs := [8]) (by kernel_rfl) (by simp) ?_
            refine AllReadyH.cons (o := ⟨none, _, _, _, _, _⟩) rfl (fun K hK => ?_) AllReadyH.nil
            go_simp
            refine hK.out _ _ (put_halfZ HS4.out (Nat.le_trans HS0.out.size (by have := HK0.out.size; have := HK1.out.size; have := HK2.out.size; have := HK3.out.size; have := HL5.out; have := HL6.out; omega))) (fun _ => ?_)
            clear hK K
            try simp only [Act.put, List.setIfInBounds_toArray, List.set_cons_zero, List.set_cons_succ]
            clear z50 z51 z52 f50 f51 f52
            have y6 := (set3_other (V := V4) (b := V0.heap.size) (v0 := .int .i64 7) (v1 := .int .i64 0) (v2 := .slice (some ⟨a5, 0, none⟩) 2 2) (k := V2.heap.size) (by have := HK0.out.size; have := HK1.out.size; have := HK2.out.size; have := HK3.out.size; have := HL5.out; have := HL6.out; omega)).trans z6
            obtain ⟨V5, hV5⟩ : ∃ V, ((V4.setCell ⟨V0.heap.size, 0, none⟩ (.int .i64 7)).setCell ⟨V0.heap.size, 1, none⟩ (.int .i64 0)).setCell ⟨V0.heap.size, 2, none⟩ (.slice (some ⟨a5, 0, none⟩) 2 2) = V := ⟨_, rfl⟩
            rw [hV5] at y6 ⊢
            have HPU2 := Lib.hid (HPUT.out _ (by rw [hV5]))
            obtain ⟨z60, z61, z62, f60, f61, f62⟩ := zero_three y6
            refine wpAnyH_ready (rs := [9]) (by kernel_rfl) (by simp) ?_
            refine AllReadyH.cons (o := ⟨none, _, _, _, _, _⟩) rfl (fun K hK => ?_) AllReadyH.nil
            go_simp
            refine hK.out _ _ HPU2.out.2.2 (fun _ => ?_)
            clear hK K
            try simp only [Act.put, List.setIfInBounds_toArray, List.set_cons_zero, List.set_cons_succ]
            refine wpAnyH_done (by kernel_rfl) ?_ _
            go_wp2_with fail
            go_meet
            case rel => exact ⟨_, _, _, _, rfl, rfl, HPU2.out.1, HPU2.out.2.1, HPU2.out.2.2⟩
        · skip
          go_simp
          refine hK.out _ _ (HS1.out.alloc HS1.out.size (.cells #[.int .i64 0, .int .i64 0, .slice none 0 0] 24)) (fun _ => ?_)
          clear hK K
          try simp only [Act.put, List.setIfInBounds_toArray, List.set_cons_zero, List.set_cons_succ]
          obtain ⟨V2, hV⟩ : ∃ V, V1.alloc (.cells #[.int .i64 0, .int .i64 0, .slice none 0 0] 24) = V := ⟨_, rfl⟩
          rw [hV]
          have HK1 := Lib.hid (show Below V1.heap.size V1 V2 by rw [← hV]; exact (Below.refl _ _).alloc (Nat.le_refl _) _)
          have HZ6 := Lib.hid (show V2.heap[V1.heap.size]? = some (.cells #[.int .i64 0, .int .i64 0, .slice none 0 0] 24) by rw [← hV]; exact World.alloc_heap_new _ _)
          have HL6 := Lib.hid (show V1.heap.size < V2.heap.size by rw [← hV, World.size_alloc]; omega)
          have HS2 := Lib.hid (Go.RowKit.Below.tr HS1.out HK1.out (Nat.le_refl _))
          clear hV
          refine wpAnyH_ready (rs := [2]) (by kernel_rfl) (by simp) ?_
          refine AllReadyH.cons (o := ⟨some 30, _, _, _, _, _⟩) rfl (fun K hK => ?_) AllReadyH.nil
          go_simp
          refine (HC1.out _ HS2.out).mono ?_
          rintro e V3 ⟨a5, rfl, ht, hb⟩
          have HK2 := Lib.hid hb
          have HS3 := Lib.hid (Go.RowKit.Below.tr HS2.out hb (Nat.le_refl _))
          have HT5 := Lib.hid ht
          clear hb ht
          dsimp only
          refine hK.out _ _ HS3.out (fun _ => ?_)
          clear hK K
          try simp only [Act.put, List.setIfInBounds_toArray, List.set_cons_zero, List.set_cons_succ]
          refine wpAnyH_ready (rs := [5]) (by kernel_rfl) (by simp) ?_
          refine AllReadyH.cons (o := ⟨some 33, _, _, _, _, _⟩) rfl (fun K hK => ?_) AllReadyH.nil
          go_simp
          refine (HC2.out _ HS3.out).mono ?_
          rintro e V4 ⟨a6, rfl, ht, hb⟩
          have HK3 := Lib.hid hb
          have HS4 := Lib.hid (Go.RowKit.Below.tr HS3.out hb (Nat.le_refl _))
          have HT6 := Lib.hid ht
          clear hb ht
          dsimp only
          refine hK.out _ _ HS4.out (fun _ => ?_)
          clear hK K
          try simp only [Act.put, List.setIfInBounds_toArray, List.set_cons_zero, List.set_cons_succ]
          have z5 := ((Go.RowKit.Below.tr (Go.RowKit.Below.tr HK1.out HK2.out (Nat.le_refl _)) HK3.out (Nat.le_refl _)).block _ HL5.out).trans HZ5.out
          have z6 := ((Go.RowKit.Below.tr HK2.out HK3.out (Nat.le_refl _)).block _ HL6.out).trans HZ6.out
          have hput := fun F hF => put_twoZ (F := F) (k := 7) (n := 0) (l := 2) (k' := 7) (n' := 0) (l' := 2) ⟨rfl, rfl, rfl⟩ ⟨rfl, rfl, rfl⟩ HR5.out HR6.out z5 z6 (ty_later HT5.out HK3.out) (ty_later HT6.out (Below.refl V4.heap.size V4)) HS4.out (Nat.le_trans HS0.out.size (by have := HK0.out.size; have := HK1.out.size; have := HK2.out.size; have := HK3.out.size; have := HL5.out; have := HL6.out; omega)) (Nat.le_trans HS0.out.size (by have := HK0.out.size; have := HK1.out.size; have := HK2.out.size; have := HK3.out.size; have := HL5.out; have := HL6.out; omega)) (by have := HK0.out.size; have := HK1.out.size; have := HK2.out.size; have := HK3.out.size; have := HL5.out; have := HL6.out; omega) hF
          have HPUT := Lib.hid hput
          clear hput
          obtain ⟨z50, z51, z52, f50, f51, f52⟩ := zero_three z5
          refine wpAnyH_ready (rs := [8]) (by kernel_rfl) (by simp) ?_
          refine AllReadyH.cons (o := ⟨none, _, _, _, _, _⟩) rfl (fun K hK => ?_) AllReadyH.nil
          go_simp
          refine hK.out _ _ (put_halfZ HS4.out (Nat.le_trans HS0.out.size (by have := HK0.out.size; have := HK1.out.size; have := HK2.out.size; have := HK3.out.size; have := HL5.out; have := HL6.out; omega))) (fun _ => ?_)
          clear hK K
          try simp only [Act.put, List.setIfInBounds_toArray, List.set_cons_zero, List.set_cons_succ]
          clear z50 z51 z52 f50 f51 f52
          have y6 := (set3_other (V := V4) (b := V0.heap.size) (v0 := .int .i64 7) (v1 := .int .i64 0) (v2 := .slice (some ⟨a5, 0, none⟩) 2 2) (k := V1.heap.size) (by have := HK0.out.size; have := HK1.out.size; have := HK2.out.size; have := HK3.out.size; have := HL5.out; have := HL6.out; omega)).trans z6
          obtain ⟨V5, hV5⟩ : ∃ V, ((V4.setCell ⟨V0.heap.size, 0, none⟩ (.int .i64 7)).setCell ⟨V0.heap.size, 1, none⟩ (.int .i64 0)).setCell ⟨V0.heap.size, 2, none⟩ (.slice (some ⟨a5, 0, none⟩) 2 2) = V := ⟨_, rfl⟩
          rw [hV5] at y6 ⊢
          have HPU2 := Lib.hid (HPUT.out _ (by rw [hV5]))
          obtain ⟨z60, z61, z62, f60, f61, f62⟩ := zero_three y6
          refine wpAnyH_ready (rs := [9]) (by kernel_rfl) (by simp) ?_
          refine AllReadyH.cons (o := ⟨none, _, _, _, _, _⟩) rfl (fun K hK => ?_) AllReadyH.nil
          go_simp
          refine hK.out _ _ HPU2.out.2.2 (fun _ => ?_)
          clear hK K
          try simp only [Act.put, List.setIfInBounds_toArray, List.set_cons_zero, List.set_cons_succ]
          refine wpAnyH_done (by kernel_rfl) ?_ _
          go_wp2_with fail
          go_meet
          case rel => exact ⟨_, _, _, _, rfl, rfl, HPU2.out.1, HPU2.out.2.1, HPU2.out.2.2⟩
      · skip
        go_simp
        refine hK.out _ _ (HS0.out.alloc HS0.out.size (.cells #[.int .i64 0, .int .i64 0, .slice none 0 0] 24)) (fun _ => ?_)
        clear hK K
        try simp only [Act.put, List.setIfInBounds_toArray, List.set_cons_zero, List.set_cons_succ]
        obtain ⟨V1, hV⟩ : ∃ V, V0.alloc (.cells #[.int .i64 0, .int .i64 0, .slice none 0 0] 24) = V := ⟨_, rfl⟩
        rw [hV]
        have HK0 := Lib.hid (show Below V0.heap.size V0 V1 by rw [← hV]; exact (Below.refl _ _).alloc (Nat.le_refl _) _)
        have HZ6 := Lib.hid (show V1.heap[V0.heap.size]? = some (.cells #[.int .i64 0, .int .i64 0, .slice none 0 0] 24) by rw [← hV]; exact World.alloc_heap_new _ _)
        have HL6 := Lib.hid (show V0.heap.size < V1.heap.size by rw [← hV, World.size_alloc]; omega)
        have HS1 := Lib.hid (Go.RowKit.Below.tr HS0.out HK0.out (Nat.le_refl _))
        clear hV
        refine wpAnyH_ready (rs := [2, 6]) (by kernel_rfl) (by simp) ?_
        refine AllReadyH.cons (o := ⟨some 30, _, _, _, _, _⟩) rfl (fun K hK => ?_) (AllReadyH.cons (o := ⟨some 11, _, _, _, _, _⟩) rfl (fun K hK => ?_) AllReadyH.nil)
        · skip
          go_simp
          refine (HC1.out _ HS1.out).mono ?_
          rintro e V2 ⟨a5, rfl, ht, hb⟩
          have HK1 := Lib.hid hb
          have HS2 := Lib.hid (Go.RowKit.Below.tr HS1.out hb (Nat.le_refl _))
          have HT5 := Lib.hid ht
          clear hb ht
          dsimp only
          refine hK.out _ _ HS2.out (fun _ => ?_)
          clear hK K
          try simp only [Act.put, List.setIfInBounds_toArray, List.set_cons_zero, List.set_cons_succ]
          refine wpAnyH_ready (rs := [5, 6]) (by kernel_rfl) (by simp) ?_
          refine AllReadyH.cons (o := ⟨some 33, _, _, _, _, _⟩) rfl (fun K hK => ?_) (AllReadyH.cons (o := ⟨some 11, _, _, _, _, _⟩) rfl (fun K hK => ?_) AllReadyH.nil)
          · skip
            go_simp
            refine (HC2.out _ HS2.out).mono ?_
            rintro e V3 ⟨a6, rfl, ht, hb⟩
            have HK2 := Lib.hid hb
            have HS3 := Lib.hid (Go.RowKit.Below.tr HS2.out hb (Nat.le_refl _))
            have HT6 := Lib.hid ht
            clear hb ht
            dsimp only
            refine hK.out _ _ HS3.out (fun _ => ?_)
            clear hK K
            try simp only [Act.put, List.setIfInBounds_toArray, List.set_cons_zero, List.set_cons_succ]
            refine wpAnyH_ready (rs := [6]) (by kernel_rfl) (by simp) ?_
            refine AllReadyH.cons (o := ⟨some 11, _, _, _, _, _⟩) rfl (fun K hK => ?_) AllReadyH.nil
            go_simp
            refine hK.out _ _ (HS3.out.alloc HS3.out.size (.cells #[.int .i64 0, .int .i64 0, .slice none 0 0] 24)) (fun _ => ?_)
            clear hK K
            try simp only [Act.put, List.setIfInBounds_toArray, List.set_cons_zero, List.set_cons_succ]
            obtain ⟨V4, hV⟩ : ∃ V, V3.alloc (.cells #[.int .i64 0, .int .i64 0, .slice none 0 0] 24) = V := ⟨_, rfl⟩
            rw [hV]
            have HK3 := Lib.hid (show Below V3.heap.size V3 V4 by rw [← hV]; exact (Below.refl _ _).alloc (Nat.le_refl _) _)
            have HZ5 := Lib.hid (show V4.heap[V3.heap.size]? = some (.cells #[.int .i64 0, .int .i64 0, .slice none 0 0] 24) by rw [← hV]; exact World.alloc_heap_new _ _)
            have HL5 := Lib.hid (show V3.heap.size < V4.heap.size by rw [← hV, World.size_alloc]; omega)
            have HS4 := Lib.hid (Go.RowKit.Below.tr HS3.out HK3.out (Nat.le_refl _))
            clear hV
            have z5 := ((Below.refl V4.heap.size V4).block _ HL5.out).trans HZ5.out
            have z6 := ((Go.RowKit.Below.tr (Go.RowKit.Below.tr HK1.out HK2.out (Nat.le_refl _)) HK3.out (Nat.le_refl _)).block _ HL6.out).trans HZ6.out
            have hput := fun F hF => put_twoZ (F := F) (k := 7) (n := 0) (l := 2) (k' := 7) (n' := 0) (l' := 2) ⟨rfl, rfl, rfl⟩ ⟨rfl, rfl, rfl⟩ HR5.out HR6.out z5 z6 (ty_later HT5.out (Go.RowKit.Below.tr HK2.out HK3.out (Nat.le_refl _))) (ty_later HT6.out HK3.out) HS4.out (Nat.le_trans HS0.out.size (by have := HK0.out.size; have := HK1.out.size; have := HK2.out.size; have := HK3.out.size; have := HL5.out; have := HL6.out; omega)) (Nat.le_trans HS0.out.size (by have := HK0.out.size; have := HK1.out.size; have := HK2.out.size; have := HK3.out.size; have := HL5.out; have := HL6.out; omega)) (by have := HK0.out.size; have := HK1.out.size; have := HK2.out.size; have := HK3.out.size; have := HL5.out; have := HL6.out; omega) hF
            have HPUT := Lib.hid hput
            clear hput
            obtain ⟨z50, z51, z52, f50, f51, f52⟩ := zero_three z5
            refine wpAnyH_ready (rs := [8]) (by kernel_rfl) (by simp) ?_
            refine AllReadyH.cons (o := ⟨none, _, _, _, _, _⟩) rfl (fun K hK => ?_) AllReadyH.nil
            go_simp
            refine hK.out _ _ (put_halfZ HS4.out (Nat.le_trans HS0.out.size (by have := HK0.out.size; have := HK1.out.size; have := HK2.out.size; have := HK3.out.size; have := HL5.out; have := HL6.out; omega))) (fun _ => ?_)
            clear hK K
            try simp only [Act.put, List.setIfInBounds_toArray, List.set_cons_zero, List.set_cons_succ]
            clear z50 z51 z52 f50 f51 f52
            have y6 := (set3_other (V := V4) (b := V3.heap.size) (v0 := .int .i64 7) (v1 := .int .i64 0) (v2 := .slice (some ⟨a5, 0, none⟩) 2 2) (k := V0.heap.size) (by have := HK0.out.size; have := HK1.out.size; have := HK2.out.size; have := HK3.out.size; have := HL5.out; have := HL6.out; omega)).trans z6
            obtain ⟨V5, hV5⟩ : ∃ V, ((V4.setCell ⟨V3.heap.size, 0, none⟩ (.int .i64 7)).setCell ⟨V3.heap.size, 1, none⟩ (.int .i64 0)).setCell ⟨V3.heap.size, 2, none⟩ (.slice (some ⟨a5, 0, none⟩) 2 2) = V := ⟨_, rfl⟩
            rw [hV5] at y6 ⊢
            have HPU2 := Lib.hid (HPUT.out _ (by rw [hV5]))
            obtain ⟨z60, z61, z62, f60, f61, f62⟩ := zero_three y6
            refine wpAnyH_ready (rs := [9]) (by kernel_rfl) (by simp) ?_
            refine AllReadyH.cons (o := ⟨none, _, _, _, _, _⟩) rfl (fun K hK => ?_) AllReadyH.nil
            go_simp
            refine hK.out _ _ HPU2.out.2.2 (fun _ => ?_)
            clear hK K
            try simp only [Act.put, List.setIfInBounds_toArray, List.set_cons_zero, List.set_cons_succ]
            refine wpAnyH_done (by kernel_rfl) ?_ _
            go_wp2_with fail
            go_meet
            case rel => exact ⟨_, _, _, _, rfl, rfl, HPU2.out.1, HPU2.out.2.1, HPU2.out.2.2⟩
          · skip
            go_simp
            refine hK.out _ _ (HS2.out.alloc HS2.out.size (.cells #[.int .i64 0, .int .i64 0, .slice none 0 0] 24)) (fun _ => ?_)
            clear hK K
            try simp only [Act.put, List.setIfInBounds_toArray, List.set_cons_zero, List.set_cons_succ]
            obtain ⟨V3, hV⟩ : ∃ V, V2.alloc (.cells #[.int .i64 0, .int .i64 0, .slice none 0 0] 24) = V := ⟨_, rfl⟩
            rw [hV]
            have HK2 := Lib.hid (show Below V2.heap.size V2 V3 by rw [← hV]; exact (Below.refl _ _).alloc (Nat.le_refl _) _)
            have HZ5 := Lib.hid (show V3.heap[V2.heap.size]? = some (.cells #[.int .i64 0, .int .i64 0, .slice none 0 0] 24) by rw [← hV]; exact World.alloc_heap_new _ _)
            have HL5 := Lib.hid (show V2.heap.size < V3.heap.size by rw [← hV, World.size_alloc]; omega)
            have HS3 := Lib.hid (Go.RowKit.Below.tr HS2.out HK2.out (Nat.le_refl _))
            clear hV
            refine wpAnyH_ready (rs := [5]) (by kernel_rfl) (by simp) ?_
            refine AllReadyH.cons (o := ⟨some 33, _, _, _, _, _⟩) rfl (fun K hK => ?_) AllReadyH.nil
            go_simp
            refine (HC2.out _ HS3.out).mono ?_
            rintro e V4 ⟨a6, rfl, ht, hb⟩
            have HK3 := Lib.hid hb
            have HS4 := Lib.hid (Go.RowKit.Below.tr HS3.out hb (Nat.le_refl _))
            have HT6 := Lib.hid ht
            clear hb ht
            dsimp only
            refine hK.out _ _ HS4.out (fun _ => ?_)
            clear hK K
            try simp only [Act.put, List.setIfInBounds_toArray, List.set_cons_zero, List.set_cons_succ]
            have z5 := (HK3.out.block _ HL5.out).trans HZ5.out
            have z6 := ((Go.RowKit.Below.tr (Go.RowKit.Below.tr HK1.out HK2.out (Nat.le_refl _)) HK3.out (Nat.le_refl _)).block _ HL6.out).trans HZ6.out
            have hput := fun F hF => put_twoZ (F := F) (k := 7) (n := 0) (l := 2) (k' := 7) (n' := 0) (l' := 2) ⟨rfl, rfl, rfl⟩ ⟨rfl, rfl, rfl⟩ HR5.out HR6.out z5 z6 (ty_later HT5.out (Go.RowKit.Below.tr HK2.out HK3.out (Nat.le_refl _))) (ty_later HT6.out (Below.refl V4.heap.size V4)) HS4.out (Nat.le_trans HS0.out.size (by have := HK0.out.size; have := HK1.out.size; have := HK2.out.size; have := HK3.out.size; have := HL5.out; have := HL6.out; omega)) (Nat.le_trans HS0.out.size (by have := HK0.out.size; have := HK1.out.size; have := HK2.out.size; have := HK3.out.size; have := HL5.out; have := HL6.out; omega)) (by have := HK0.out.size; have := HK1.out.size; have := HK2.out.size; have := HK3.out.size; have := HL5.out; have := HL6.out; omega) hF
            have HPUT := Lib.hid hput
            clear hput
            obtain ⟨z50, z51, z52, f50, f51, f52⟩ := zero_three z5
            refine wpAnyH_ready (rs := [8]) (by kernel_rfl) (by simp) ?_
            refine AllReadyH.cons (o := ⟨none, _, _, _, _, _⟩) rfl (fun K hK => ?_) AllReadyH.nil
            go_simp
            refine hK.out _ _ (put_halfZ HS4.out (Nat.le_trans HS0.out.size (by have := HK0.out.size; have := HK1.out.size; have := HK2.out.size; have := HK3.out.size; have := HL5.out; have := HL6.out; omega))) (fun _ => ?_)
            clear hK K
            try simp only [Act.put, List.setIfInBounds_toArray, List.set_cons_zero, List.set_cons_succ]
            clear z50 z51 z52 f50 f51 f52
            have y6 := (set3_other (V := V4) (b := V2.heap.size) (v0 := .int .i64 7) (v1 := .int .i64 0) (v2 := .slice (some ⟨a5, 0, none⟩) 2 2) (k := V0.heap.size) (by have := HK0.out.size; have := HK1.out.size; have := HK2.out.size; have := HK3.out.size; have := HL5.out; have := HL6.out; omega)).trans z6
            obtain ⟨V5, hV5⟩ : ∃ V, ((V4.setCell ⟨V2.heap.size, 0, none⟩ (.int .i64 7)).setCell ⟨V2.heap.size, 1, none⟩ (.int .i64 0)).setCell ⟨V2.heap.size, 2, none⟩ (.slice (some ⟨a5, 0, none⟩) 2 2) = V := ⟨_, rfl⟩
            rw [hV5] at y6 ⊢
            have HPU2 := Lib.hid (HPUT.out _ (by rw [hV5]))
            obtain ⟨z60, z61, z62, f60, f61, f62⟩ := zero_three y6
            refine wpAnyH_ready (rs := [9]) (by kernel_rfl) (by simp) ?_
            refine AllReadyH.cons (o := ⟨none, _, _, _, _, _⟩) rfl (fun K hK => ?_) AllReadyH.nil
            go_simp
            refine hK.out _ _ HPU2.out.2.2 (fun _ => ?_)
            clear hK K
            try simp only [Act.put, List.setIfInBounds_toArray, List.set_cons_zero, List.set_cons_succ]
            refine wpAnyH_done (by kernel_rfl) ?_ _
            go_wp2_with fail
            go_meet
            case rel => exact ⟨_, _, _, _, rfl, rfl, HPU2.out.1, HPU2.out.2.1, HPU2.out.2.2⟩
        · skip
          go_simp
          refine hK.out _ _ (HS1.out.alloc HS1.out.size (.cells #[.int .i64 0, .int .i64 0, .slice none 0 0] 24)) (fun _ => ?_)
          clear hK K
          try simp only [Act.put, List.setIfInBounds_toArray, List.set_cons_zero, List.set_cons_succ]
          obtain ⟨V2, hV⟩ : ∃ V, V1.alloc (.cells #[.int .i64 0, .int .i64 0, .slice none 0 0] 24) = V := ⟨_, rfl⟩
          rw [hV]
          have HK1 := Lib.hid (show Below V1.heap.size V1 V2 by rw [← hV]; exact (Below.refl _ _).alloc (Nat.le_refl _) _)
          have HZ5 := Lib.hid (show V2.heap[V1.heap.size]? = some (.cells #[.int .i64 0, .int .i64 0, .slice none 0 0] 24) by rw [← hV]; exact World.alloc_heap_new _ _)
          have HL5 := Lib.hid (show V1.heap.size < V2.heap.size by rw [← hV, World.size_alloc]; omega)
          have HS2 := Lib.hid (Go.RowKit.Below.tr HS1.out HK1.out (Nat.le_refl _))
          clear hV
          refine wpAnyH_ready (rs := [2]) (by kernel_rfl) (by simp) ?_
          refine AllReadyH.cons (o := ⟨some 30, _, _, _, _, _⟩) rfl (fun K hK => ?_) AllReadyH.nil
          go_simp
          refine (HC1.out _ HS2.out).mono ?_
          rintro e V3 ⟨a5, rfl, ht, hb⟩
          have HK2 := Lib.hid hb
          have HS3 := Lib.hid (Go.RowKit.Below.tr HS2.out hb (Nat.le_refl _))
          have HT5 := Lib.hid ht
          clear hb ht
          dsimp only
          refine hK.out _ _ HS3.out (fun _ => ?_)
          clear hK K
          try simp only [Act.put, List.setIfInBounds_toArray, List.set_cons_zero, List.set_cons_succ]
          refine wpAnyH_ready (rs := [5]) (by kernel_rfl) (by simp) ?_
          refine AllReadyH.cons (o := ⟨some 33, _, _, _, _, _⟩) rfl (fun K hK => ?_) AllReadyH.nil
          go_simp
          refine (HC2.out _ HS3.out).mono ?_
          rintro e V4 ⟨a6, rfl, ht, hb⟩
          have HK3 := Lib.hid hb
          have HS4 := Lib.hid (Go.RowKit.Below.tr HS3.out hb (Nat.le_refl _))
          have HT6 := Lib.hid ht
          clear hb ht
          dsimp only
          refine hK.out _ _ HS4.out (fun _ => ?_)
          clear hK K
          try simp only [Act.put, List.setIfInBounds_toArray, List.set_cons_zero, List.set_cons_succ]
          have z5 := ((Go.RowKit.Below.tr HK2.out HK3.out (Nat.le_refl _)).block _ HL5.out).trans HZ5.out
          have z6 := ((Go.RowKit.Below.tr (Go.RowKit.Below.tr HK1.out HK2.out (Nat.le_refl _)) HK3.out (Nat.le_refl _)).block _ HL6.out).trans HZ6.out
          have hput := fun F hF => put_twoZ (F := F) (k := 7) (n := 0) (l := 2) (k' := 7) (n' := 0) (l' := 2) ⟨rfl, rfl, rfl⟩ ⟨rfl, rfl, rfl⟩ HR5.out HR6.out z5 z6 (ty_later HT5.out HK3.out) (ty_later HT6.out (Below.refl V4.heap.size V4)) HS4.out (Nat.le_trans HS0.out.size (by have := HK0.out.size; have := HK1.out.size; have := HK2.out.size; have := HK3.out.size; have := HL5.out; have := HL6.out; omega)) (Nat.le_trans HS0.out.size (by have := HK0.out.size; have := HK1.out.size; have := HK2.out.size; have := HK3.out.size; have := HL5.out; have := HL6.out; omega)) (by have := HK0.out.size; have := HK1.out.size; have := HK2.out.size; have := HK3.out.size; have := HL5.out; have := HL6.out; omega) hF
          have HPUT := Lib.hid hput
          clear hput
          obtain ⟨z50, z51, z52, f50, f51, f52⟩ := zero_three z5
          refine wpAnyH_ready (rs := [8]) (by kernel_rfl) (by simp) ?_
          refine AllReadyH.cons (o := ⟨none, _, _, _, _, _⟩) rfl (fun K hK => ?_) AllReadyH.nil
          go_simp
          refine hK.out _ _ (put_halfZ HS4.out (Nat.le_trans HS0.out.size (by have := HK0.out.size; have := HK1.out.size; have := HK2.out.size; have := HK3.out.size; have := HL5.out; have := HL6.out; omega))) (fun _ => ?_)
          clear hK K
          try simp only [Act.put, List.setIfInBounds_toArray, List.set_cons_zero, List.set_cons_succ]
          clear z50 z51 z52 f50 f51 f52
          have y6 := (set3_other (V := V4) (b := V1.heap.size) (v0 := .int .i64 7) (v1 := .int .i64 0) (v2 := .slice (some ⟨a5, 0, none⟩) 2 2) (k := V0.heap.size) (by have := HK0.out.size; have := HK1.out.size; have := HK2.out.size; have := HK3.out.size; have := HL5.out; have := HL6.out; omega)).trans z6
          obtain ⟨V5, hV5⟩ : ∃ V, ((V4.setCell ⟨V1.heap.size, 0, none⟩ (.int .i64 7)).setCell ⟨V1.heap.size, 1, none⟩ (.int .i64 0)).setCell ⟨V1.heap.size, 2, none⟩ (.slice (some ⟨a5, 0, none⟩) 2 2) = V := ⟨_, rfl⟩
          rw [hV5] at y6 ⊢
          have HPU2 := Lib.hid (HPUT.out _ (by rw [hV5]))
          obtain ⟨z60, z61, z62, f60, f61, f62⟩ := zero_three y6
          refine wpAnyH_ready (rs := [9]) (by kernel_rfl) (by simp) ?_
          refine AllReadyH.cons (o := ⟨none, _, _, _, _, _⟩) rfl (fun K hK => ?_) AllReadyH.nil
          go_simp
          refine hK.out _ _ HPU2.out.2.2 (fun _ => ?_)
          clear hK K
          try simp only [Act.put, List.setIfInBounds_toArray, List.set_cons_zero, List.set_cons_succ]
          refine wpAnyH_done (by kernel_rfl) ?_ _
          go_wp2_with fail
          go_meet
          case rel => exact ⟨_, _, _, _, rfl, rfl, HPU2.out.1, HPU2.out.2.1, HPU2.out.2.2⟩
    case rest =>
    as_aux_lemma =>
    obtain ⟨p7, p8, g7, g8, rfl, rfl, b5, b6, hb⟩ := hcut
    obtain ⟨w6, hw6⟩ : ∃ x, wc = x := ⟨_, rfl⟩
    rw [hw6] at b5 b6 hb ⊢
    have BT6 := Lib.hid (BT5.out.later hb); have BU6 := Lib.hid (BU5.out.later hb); have BP6 := Lib.hid (BP5.out.later hb); have BQ6 := Lib.hid (BQ5.out.later hb); have BF6 := Lib.hid (BF5.out.later hb); have BG6 := Lib.hid (BG5.out.later hb); have BC6 := Lib.hid b5; have BD6 := Lib.hid b6; have HB06 := Lib.hid (HB05.out.tr hb (Nat.le_refl _))
    clear b5 b6 hb HC1 HC2 HCELL hw6 BT5 BU5 BP5 BQ5 BF5 BG5 HB05
    have HCELL := Lib.hid (fun x (h : Below w6.heap.size w6 x) => (⟨(BT6.out.later h).cells, (BU6.out.later h).cells, (BP6.out.later h).cells, (BQ6.out.later h).cells⟩ : _ ∧ _ ∧ _ ∧ _))
    have HC1 := Lib.hid (fun x (h : Below w6.heap.size w6 x) => list_ty (w := x) (BT6.out.later h).says (BT6.out.later h).ty)
    have HC2 := Lib.hid (fun x (h : Below w6.heap.size w6 x) => list_ty (w := x) (BP6.out.later h).says (BP6.out.later h).ty)
    go_upto_region 5 with fail
    go_cut [13, 14] from 34 (fun v5 v6 wx => ∃ p5 p6 g5 g6, v5 = .pointer (some ⟨p5, 0, none⟩) ∧ v6 = .pointer (some ⟨p6, 0, none⟩) ∧ BoxT wx p5 (.mk 8 0 [t]) 8 0 1 (some ⟨g5, 0, none⟩) 1 ∧ BoxT wx p6 (.mk 8 0 [p]) 8 0 1 (some ⟨g6, 0, none⟩) 1 ∧ Below w6.heap.size w6 wx)
    case first =>
      as_aux_lemma =>
      obtain ⟨V0, hV0⟩ : ∃ V, w6.drew = V := ⟨_, rfl⟩
      have HS0 := Lib.hid (show Below w6.heap.size w6 V0 by rw [← hV0]; exact (Below.refl _ _).drew)
      refine wp_region_held_drew (S := Below w6.heap.size w6) (by kernel_rfl) (Below.refl _ _).drew (fun _ => ?_)
      rw [hV0]
      clear hV0
      refine wpAnyH_take (i := 0) (oi := ⟨some 34, _, _, _, _, _⟩) (v := ?_) rfl (by kernel_rfl) (by kernel_rfl) (by kernel_rfl) (fun _ _ _ h => h) (Or.inl ⟨by rfl, ?_⟩) HS0.out ?_
      rotate_left
      · (intro xx hSw; obtain ⟨⟨c0, c1, c2⟩, ⟨d0, d1, d2⟩, ⟨e0, e1, e2⟩, ⟨g0, g1, g2⟩⟩ := HCELL.out _ hSw; go_simp; (try with_reducible rfl))
      try simp only [Act.put, List.setIfInBounds_toArray, List.set_cons_zero, List.set_cons_succ]
      refine wpAnyH_take (i := 2) (oi := ⟨some 36, _, _, _, _, _⟩) (v := ?_) rfl (by kernel_rfl) (by kernel_rfl) (by kernel_rfl) (fun _ _ _ h => h) (Or.inl ⟨by rfl, ?_⟩) HS0.out ?_
      rotate_left
      · (intro xx hSw; obtain ⟨⟨c0, c1, c2⟩, ⟨d0, d1, d2⟩, ⟨e0, e1, e2⟩, ⟨g0, g1, g2⟩⟩ := HCELL.out _ hSw; go_simp; (try with_reducible rfl))
      try simp only [Act.put, List.setIfInBounds_toArray, List.set_cons_zero, List.set_cons_succ]
      refine wpAnyH_ready (rs := [1, 4, 5]) (by kernel_rfl) (by simp) ?_
      refine AllReadyH.cons (o := ⟨some 35, _, _, _, _, _⟩) rfl (fun K hK => ?_) (AllReadyH.cons (o := ⟨some 13, _, _, _, _, _⟩) rfl (fun K hK => ?_) (AllReadyH.cons (o := ⟨some 14, _, _, _, _, _⟩) rfl (fun K hK => ?_) AllReadyH.nil))
      · skip
        go_simp
        refine (HC1.out _ HS0.out).mono ?_
        rintro e V1 ⟨a5, rfl, ht, hb⟩
        have HK0 := Lib.hid hb
        have HS1 := Lib.hid (Go.RowKit.Below.tr HS0.out hb (Nat.le_refl _))
        have HT5 := Lib.hid ht
        clear hb ht
        dsimp only
        refine hK.out _ _ HS1.out (fun _ => ?_)
        clear hK K
        try simp only [Act.put, List.setIfInBounds_toArray, List.set_cons_zero, List.set_cons_succ]
        refine wpAnyH_ready (rs := [3, 4, 5]) (by kernel_rfl) (by simp) ?_
        refine AllReadyH.cons (o := ⟨some 37, _, _, _, _, _⟩) rfl (fun K hK => ?_) (AllReadyH.cons (o := ⟨some 13, _, _, _, _, _⟩) rfl (fun K hK => ?_) (AllReadyH.cons (o := ⟨some 14, _, _, _, _, _⟩) rfl (fun K hK => ?_) AllReadyH.nil))
        · skip
          go_simp
          refine (HC2.out _ HS1.out).mono ?_
          rintro e V2 ⟨a6, rfl, ht, hb⟩
          have HK1 := Lib.hid hb
          have HS2 := Lib.hid (Go.RowKit.Below.tr HS1.out hb (Nat.le_refl _))
          have HT6 := Lib.hid ht
          clear hb ht
          dsimp only
          refine hK.out _ _ HS2.out (fun _ => ?_)
          clear hK K
          try simp only [Act.put, List.setIfInBounds_toArray, List.set_cons_zero, List.set_cons_succ]
          refine wpAnyH_ready (rs := [4, 5]) (by kernel_rfl) (by simp) ?_
          refine AllReadyH.cons (o := ⟨some 13, _, _, _, _, _⟩) rfl (fun K hK => ?_) (AllReadyH.cons (o := ⟨some 14, _, _, _, _, _⟩) rfl (fun K hK => ?_) AllReadyH.nil)
          · skip
            go_simp
            refine hK.out _ _ (HS2.out.alloc HS2.out.size (.cells #[.int .i64 0, .int .i64 0, .slice none 0 0] 24)) (fun _ => ?_)
            clear hK K
            try simp only [Act.put, List.setIfInBounds_toArray, List.set_cons_zero, List.set_cons_succ]
            obtain ⟨V3, hV⟩ : ∃ V, V2.alloc (.cells #[.int .i64 0, .int .i64 0, .slice none 0 0] 24) = V := ⟨_, rfl⟩
            rw [hV]
            have HK2 := Lib.hid (show Below V2.heap.size V2 V3 by rw [← hV]; exact (Below.refl _ _).alloc (Nat.le_refl _) _)
            have HZ5 := Lib.hid (show V3.heap[V2.heap.size]? = some (.cells #[.int .i64 0, .int .i64 0, .slice none 0 0] 24) by rw [← hV]; exact World.alloc_heap_new _ _)
            have HL5 := Lib.hid (show V2.heap.size < V3.heap.size by rw [← hV, World.size_alloc]; omega)
            have HS3 := Lib.hid (Go.RowKit.Below.tr HS2.out HK2.out (Nat.le_refl _))
            clear hV
            refine wpAnyH_ready (rs := [5]) (by kernel_rfl) (by simp) ?_
            refine AllReadyH.cons (o := ⟨some 14, _, _, _, _, _⟩) rfl (fun K hK => ?_) AllReadyH.nil
            go_simp
            refine hK.out _ _ (HS3.out.alloc HS3.out.size (.cells #[.int .i64 0, .int .i64 0, .slice none 0 0] 24)) (fun _ => ?_)
            clear hK K
            try simp only [Act.put, List.setIfInBounds_toArray, List.set_cons_zero, List.set_cons_succ]
            obtain ⟨V4, hV⟩ : ∃ V, V3.alloc (.cells #[.int .i64 0, .int .i64 0, .slice none 0 0] 24) = V := ⟨_, rfl⟩
            rw [hV]
            have HK3 := Lib.hid (show Below V3.heap.size V3 V4 by rw [← hV]; exact (Below.refl _ _).alloc (Nat.le_refl _) _)
            have HZ6 := Lib.hid (show V4.heap[V3.heap.size]? = some (.cells #[.int .i64 0, .int .i64 0, .slice none 0 0] 24) by rw [← hV]; exact World.alloc_heap_new _ _)
            have HL6 := Lib.hid (show V3.heap.size < V4.heap.size by rw [← hV, World.size_alloc]; omega)
            have HS4 := Lib.hid (Go.RowKit.Below.tr HS3.out HK3.out (Nat.le_refl _))
            clear hV
            have z5 := (HK3.out.block _ HL5.out).trans HZ5.out
            have z6 := ((Below.refl V4.heap.size V4).block _ HL6.out).trans HZ6.out
            have hput := fun F hF => put_twoZ (F := F) (k := 8) (n := 0) (l := 1) (k' := 8) (n' := 0) (l' := 1) ⟨rfl, rfl, rfl⟩ ⟨rfl, rfl, rfl⟩ HR3.out HR4.out z5 z6 (ty_later HT5.out (Go.RowKit.Below.tr (Go.RowKit.Below.tr HK1.out HK2.out (Nat.le_refl _)) HK3.out (Nat.le_refl _))) (ty_later HT6.out (Go.RowKit.Below.tr HK2.out HK3.out (Nat.le_refl _))) HS4.out (Nat.le_trans HS0.out.size (by have := HK0.out.size; have := HK1.out.size; have := HK2.out.size; have := HK3.out.size; have := HL5.out; have := HL6.out; omega)) (Nat.le_trans HS0.out.size (by have := HK0.out.size; have := HK1.out.size; have := HK2.out.size; have := HK3.out.size; have := HL5.out; have := HL6.out; omega)) (by have := HK0.out.size; have := HK1.out.size; have := HK2.out.size; have := HK3.out.size; have := HL5.out; have := HL6.out; omega) hF
            have HPUT := Lib.hid hput
            clear hput
            obtain ⟨z50, z51, z52, f50, f51, f52⟩ := zero_three z5
            refine wpAnyH_ready (rs := [6]) (by kernel_rfl) (by simp) ?_
            refine AllReadyH.cons (o := ⟨none, _, _, _, _, _⟩) rfl (fun K hK => ?_) AllReadyH.nil
            go_simp
            refine hK.out _ _ (put_halfZ HS4.out (Nat.le_trans HS0.out.size (by have := HK0.out.size; have := HK1.out.size; have := HK2.out.size; have := HK3.out.size; have := HL5.out; have := HL6.out; omega))) (fun _ => ?_)
            clear hK K
            try simp only [Act.put, List.setIfInBounds_toArray, List.set_cons_zero, List.set_cons_succ]
            clear z50 z51 z52 f50 f51 f52
            have y6 := (set3_other (V := V4) (b := V2.heap.size) (v0 := .int .i64 8) (v1 := .int .i64 0) (v2 := .slice (some ⟨a5, 0, none⟩) 1 1) (k := V3.heap.size) (by have := HK0.out.size; have := HK1.out.size; have := HK2.out.size; have := HK3.out.size; have := HL5.out; have := HL6.out; omega)).trans z6
            obtain ⟨V5, hV5⟩ : ∃ V, ((V4.setCell ⟨V2.heap.size, 0, none⟩ (.int .i64 8)).setCell ⟨V2.heap.size, 1, none⟩ (.int .i64 0)).setCell ⟨V2.heap.size, 2, none⟩ (.slice (some ⟨a5, 0, none⟩) 1 1) = V := ⟨_, rfl⟩
            rw [hV5] at y6 ⊢
            have HPU2 := Lib.hid (HPUT.out _ (by rw [hV5]))
            obtain ⟨z60, z61, z62, f60, f61, f62⟩ := zero_three y6
            refine wpAnyH_ready (rs := [7]) (by kernel_rfl) (by simp) ?_
            refine AllReadyH.cons (o := ⟨none, _, _, _, _, _⟩) rfl (fun K hK => ?_) AllReadyH.nil
            go_simp
            refine hK.out _ _ HPU2.out.2.2 (fun _ => ?_)
            clear hK K
            try simp only [Act.put, List.setIfInBounds_toArray, List.set_cons_zero, List.set_cons_succ]
            refine wpAnyH_done (by kernel_rfl) ?_ _
            go_wp2_with fail
            go_meet
            case rel => exact ⟨_, _, _, _, rfl, rfl, HPU2.out.1, HPU2.out.2.1, HPU2.out.2.2⟩
          · skip
            go_simp
            refine hK.out _ _ (HS2.out.alloc HS2.out.size (.cells #[.int .i64 0, .int .i64 0, .slice none 0 0] 24)) (fun _ => ?_)
            clear hK K
            try simp only [Act.put, List.setIfInBounds_toArray, List.set_cons_zero, List.set_cons_succ]
            obtain ⟨V3, hV⟩ : ∃ V, V2.alloc (.cells #[.int .i64 0, .int .i64 0, .slice none 0 0] 24) = V := ⟨_, rfl⟩
            rw [hV]
            have HK2 := Lib.hid (show Below V2.heap.size V2 V3 by rw [← hV]; exact (Below.refl _ _).alloc (Nat.le_refl _) _)
            have HZ6 := Lib.hid (show V3.heap[V2.heap.size]? = some (.cells #[.int .i64 0, .int .i64 0, .slice none 0 0] 24) by rw [← hV]; exact World.alloc_heap_new _ _)
            have HL6 := Lib.hid (show V2.heap.size < V3.heap.size by rw [← hV, World.size_alloc]; omega)
            have HS3 := Lib.hid (Go.RowKit.Below.tr HS2.out HK2.out (Nat.le_refl _))
            clear hV
            refine wpAnyH_ready (rs := [4]) (by kernel_rfl) (by simp) ?_
            refine AllReadyH.cons (o := ⟨some 13, _, _, _, _, _⟩) rfl (fun K hK => ?_) AllReadyH.nil
            go_simp
            refine hK.out _ _ (HS3.out.alloc HS3.out.size (.cells #[.int .i64 0, .int .i64 0, .slice none 0 0] 24)) (fun _ => ?_)
            clear hK K
            try simp only [Act.put, List.setIfInBounds_toArray, List.set_cons_zero, List.set_cons_succ]
            obtain ⟨V4, hV⟩ : ∃ V, V3.alloc (.cells #[.int .i64 0, .int .i64 0, .slice none 0 0] 24) = V := ⟨_, rfl⟩
            rw [hV]
            have HK3 := Lib.hid (show Below V3.heap.size V3 V4 by rw [← hV]; exact (Below.refl _ _).alloc (Nat.le_refl _) _)
            have HZ5 := Lib.hid (show V4.heap[V3.heap.size]? = some (.cells #[.int .i64 0, .int .i64 0, .slice none 0 0] 24) by rw [← hV]; exact World.alloc_heap_new _ _)
            have HL5 := Lib.hid (show V3.heap.size < V4.heap.size by rw [← hV, World.size_alloc]; omega)
            have HS4 := Lib.hid (Go.RowKit.Below.tr HS3.out HK3.out (Nat.le_refl _))
            clear hV
            have z5 := ((Below.refl V4.heap.size V4).block _ HL5.out).trans HZ5.out
            have z6 := (HK3.out.block _ HL6.out).trans HZ6.out
            have hput := fun F hF => put_twoZ (F := F) (k := 8) (n := 0) (l := 1) (k' := 8) (n' := 0) (l' := 1) ⟨rfl, rfl, rfl⟩ ⟨rfl, rfl, rfl⟩ HR3.out HR4.out z5 z6 (ty_later HT5.out (Go.RowKit.Below.tr (Go.RowKit.Below.tr HK1.out HK2.out (Nat.le_refl _)) HK3.out (Nat.le_refl _))) (ty_later HT6.out (Go.RowKit.Below.tr HK2.out HK3.out (Nat.le_refl _))) HS4.out (Nat.le_trans HS0.out.size (by have := HK0.out.size; have := HK1.out.size; have := HK2.out.size; have := HK3.out.size; have := HL5.out; have := HL6.out; omega)) (Nat.le_trans HS0.out.size (by have := HK0.out.size; have := HK1.out.size; have := HK2.out.size; have := HK3.out.size; have := HL5.out; have := HL6.out; omega)) (by have := HK0.out.size; have := HK1.out.size; have := HK2.out.size; have := HK3.out.size; have := HL5.out; have := HL6.out; omega) hF
            have HPUT := Lib.hid hput
            clear hput
            obtain ⟨z50, z51, z52, f50, f51, f52⟩ := zero_three z5
            refine wpAnyH_ready (rs := [6]) (by kernel_rfl) (by simp) ?_
            refine AllReadyH.cons (o := ⟨none, _, _, _, _, _⟩) rfl (fun K hK => ?_) AllReadyH.nil
            go_simp
            refine hK.out _ _ (put_halfZ HS4.out (Nat.le_trans HS0.out.size (by have := HK0.out.size; have := HK1.out.size; have := HK2.out.size; have := HK3.out.size; have := HL5.out; have := HL6.out; omega))) (fun _ => ?_)
            clear hK K
            try simp only [Act.put, List.setIfInBounds_toArray, List.set_cons_zero, List.set_cons_succ]
            clear z50 z51 z52 f50 f51 f52
            have y6 := (set3_other (V := V4) (b := V3.heap.size) (v0 := .int .i64 8) (v1 := .int .i64 0) (v2 := .slice (some ⟨a5, 0, none⟩) 1 1) (k := V2.heap.size) (by have := HK0.out.size; have := HK1.out.size; have := HK2.out.size; have := HK3.out.size; have := HL5.out; have := HL6.out; omega)).trans z6
            obtain ⟨V5, hV5⟩ : ∃ V, ((V4.setCell ⟨V3.heap.size, 0, none⟩ (.int .i64 8)).setCell ⟨V3.heap.size, 1, none⟩ (.int .i64 0)).setCell ⟨V3.heap.size, 2, none⟩ (.slice (some ⟨a5, 0, none⟩) 1 1) = V := ⟨_, rfl⟩
            rw [hV5] at y6 ⊢
            have HPU2 := Lib.hid (HPUT.out _ (by rw [hV5]))
            obtain ⟨z60, z61, z62, f60, f61, f62⟩ := zero_three y6
            refine wpAnyH_ready (rs := [7]) (by kernel_rfl) (by simp) ?_
            refine AllReadyH.cons (o := ⟨none, _, _, _, _, _⟩) rfl (fun K hK => ?_) AllReadyH.nil
            go_simp
            refine hK.out _ _ HPU2.out.2.2 (fun _ => ?_)
            clear hK K
            try simp only [Act.put, List.setIfInBounds_toArray, List.set_cons_zero, List.set_cons_succ]
            refine wpAnyH_done (by kernel_rfl) ?_ _
            go_wp2_with fail
            go_meet
            case rel => exact ⟨_, _, _, _, rfl, rfl, HPU2.out.1, HPU2.out.2.1, HPU2.out.2.2⟩
        · skip
          go_simp
          refine hK.out _ _ (HS1.out.alloc HS1.out.size (.cells #[.int .i64 0, .int .i64 0, .slice none 0 0] 24)) (fun _ => ?_)
          clear hK K
          try simp only [Act.put, List.setIfInBounds_toArray, List.set_cons_zero, List.set_cons_succ]
          obtain ⟨V2, hV⟩ : ∃ V, V1.alloc (.cells #[.int .i64 0, .int .i64 0, .slice none 0 0] 24) = V := ⟨_, rfl⟩
          rw [hV]
          have HK1 := Lib.hid (show Below V1.heap.size V1 V2 by rw [← hV]; exact (Below.refl _ _).alloc (Nat.le_refl _) _)
          have HZ5 := Lib.hid (show V2.heap[V1.heap.size]? = some (.cells #[.int .i64 0, .int .i64 0, .slice none 0 0] 24) by rw [← hV]; exact World.alloc_heap_new _ _)
          have HL5 := Lib.hid (show V1.heap.size < V2.heap.size by rw [← hV, World.size_alloc]; omega)
          have HS2 := Lib.hid (Go.RowKit.Below.tr HS1.out HK1.out (Nat.le_refl _))
          clear hV
          refine wpAnyH_ready (rs := [3, 5]) (by kernel_rfl) (by simp) ?_
          refine AllReadyH.cons (o := ⟨some 37, _, _, _, _, _⟩) rfl (fun K hK => ?_) (AllReadyH.cons (o := ⟨some 14, _, _, _, _, _⟩) rfl (fun K hK => ?_) AllReadyH.nil)
          · skip
            go_simp
            refine (HC2.out _ HS2.out).mono ?_
            rintro e V3 ⟨a6, rfl, ht, hb⟩
            have HK2 := Lib.hid hb
            have HS3 := Lib.hid (Go.RowKit.Below.tr HS2.out hb (Nat.le_refl _))
            have HT6 := Lib.hid ht
            clear hb ht
            dsimp only
            refine hK.out _ _ HS3.out (fun _ => ?_)
            clear hK K
            try simp only [Act.put, List.setIfInBounds_toArray, List.set_cons_zero, List.set_cons_succ]
            refine wpAnyH_ready (rs := [5]) (by kernel_rfl) (by simp) ?_
            refine AllReadyH.cons (o := ⟨some 14, _, _, _, _, _⟩) rfl (fun K hK => ?_) AllReadyH.nil
            go_simp
            refine hK.out _ _ (HS3.out.alloc HS3.out.size (.cells #[.int .i64 0, .int .i64 0, .slice none 0 0] 24)) (fun _ => ?_)
            clear hK K
            try simp only [Act.put, List.setIfInBounds_toArray, List.set_cons_zero, List.set_cons_succ]
            obtain ⟨V4, hV⟩ : ∃ V, V3.alloc (.cells #[.int .i64 0, .int .i64 0, .slice none 0 0] 24) = V := ⟨_, rfl⟩
            rw [hV]
            have HK3 := Lib.hid (show Below V3.heap.size V3 V4 by rw [← hV]; exact (Below.refl _ _).alloc (Nat.le_refl _) _)
            have HZ6 := Lib.hid (show V4.heap[V3.heap.size]? = some (.cells #[.int .i64 0, .int .i64 0, .slice none 0 0] 24) by rw [← hV]; exact World.alloc_heap_new _ _)
            have HL6 := Lib.hid (show V3.heap.size < V4.heap.size by rw [← hV, World.size_alloc]; omega)
            have HS4 := Lib.hid (Go.RowKit.Below.tr HS3.out HK3.out (Nat.le_refl _))
            clear hV
            have z5 := ((Go.RowKit.Below.tr HK2.out HK3.out (Nat.le_refl _)).block _ HL5.out).trans HZ5.out
            have z6 := ((Below.refl V4.heap.size V4).block _ HL6.out).trans HZ6.out
            have hput := fun F hF => put_twoZ (F := F) (k := 8) (n := 0) (l := 1) (k' := 8) (n' := 0) (l' := 1) ⟨rfl, rfl, rfl⟩ ⟨rfl, rfl, rfl⟩ HR3.out HR4.out z5 z6 (ty_later HT5.out (Go.RowKit.Below.tr (Go.RowKit.Below.tr HK1.out HK2.out (Nat.le_refl _)) HK3.out (Nat.le_refl _))) (ty_later HT6.out HK3.out) HS4.out (Nat.le_trans HS0.out.size (by have := HK0.out.size; have := HK1.out.size; have := HK2.out.size; have := HK3.out.size; have := HL5.out; have := HL6.out; omega)) (Nat.le_trans HS0.out.size (by have := HK0.out.size; have := HK1.out.size; have := HK2.out.size; have := HK3.out.size; have := HL5.out; have := HL6.out; omega)) (by have := HK0.out.size; have := HK1.out.size; have := HK2.out.size; have := HK3.out.size; have := HL5.out; have := HL6.out; omega) hF
            have HPUT := Lib.hid hput
            clear hput
            obtain ⟨z50, z51, z52, f50, f51, f52⟩ := zero_three z5
            refine wpAnyH_ready (rs := [6]) (by kernel_rfl) (by simp) ?_
            refine AllReadyH.cons (o := ⟨none, _, _, _, _, _⟩) rfl (fun K hK => ?_) AllReadyH.nil
            go_simp
            refine hK.out _ _ (put_halfZ HS4.out (Nat.le_trans HS0.out.size (by have := HK0.out.size; have := HK1.out.size; have := HK2.out.size; have := HK3.out.size; have := HL5.out; have := HL6.out; omega))) (fun _ => ?_)
            clear hK K
            try simp only [Act.put, List.setIfInBounds_toArray, List.set_cons_zero, List.set_cons_succ]
            clear z50 z51 z52 f50 f51 f52
            have y6 := (set3_other (V := V4) (b := V1.heap.size) (v0 := .int .i64 8) (v1 := .int .i64 0) (v2 := .slice (some ⟨a5, 0, none⟩) 1 1) (k := V3.heap.size) (by have := HK0.out.size; have := HK1.out.size; have := HK2.out.size; have := HK3.out.size; have := HL5.out; have := HL6.out; omega)).trans z6
            obtain ⟨V5, hV5⟩ : ∃ V, ((V4.setCell ⟨V1.heap.size, 0, none⟩ (.int .i64 8)).setCell ⟨V1.heap.size, 1, none⟩ (.int .i64 0)).setCell ⟨V1.heap.size, 2, none⟩ (.slice (some ⟨a5, 0, none⟩) 1 1) = V := ⟨_, rfl⟩
            rw [hV5] at y6 ⊢
            have HPU2 := Lib.hid (HPUT.out _ (by rw [hV5]))
            obtain ⟨z60, z61, z62, f60, f61, f62⟩ := zero_three y6
            refine wpAnyH_ready (rs := [7]) (by kernel_rfl) (by simp) ?_
            refine AllReadyH.cons (o := ⟨none, _, _, _, _, _⟩) rfl (fun K hK => ?_) AllReadyH.nil
            go_simp
            refine hK.out _ _ HPU2.out.2.2 (fun _ => ?_)
            clear hK K
            try simp only [Act.put, List.setIfInBounds_toArray, List.set_cons_zero, List.set_cons_succ]
            refine wpAnyH_done (by kernel_rfl) ?_ _
            go_wp2_with fail
            go_meet
            case rel => exact ⟨_, _, _, _, rfl, rfl, HPU2.out.1, HPU2.out.2.1, HPU2.out.2.2⟩
          · skip
            go_simp
            refine hK.out _ _ (HS2.out.alloc HS2.out.size (.cells #[.int .i64 0, .int .i64 0, .slice none 0 0] 24)) (fun _ => ?_)
            clear hK K
            try simp only [Act.put, List.setIfInBounds_toArray, List.set_cons_zero, List.set_cons_succ]
            obtain ⟨V3, hV⟩ : ∃ V, V2.alloc (.cells #[.int .i64 0, .int .i64 0, .slice none 0 0] 24) = V := ⟨_, rfl⟩
            rw [hV]
            have HK2 := Lib.hid (show Below V2.heap.size V2 V3 by rw [← hV]; exact (Below.refl _ _).alloc (Nat.le_refl _) _)
            have HZ6 := Lib.hid (show V3.heap[V2.heap.size]? = some (.cells #[.int .i64 0, .int .i64 0, .slice none 0 0] 24) by rw [← hV]; exact World.alloc_heap_new _ _)
            have HL6 := Lib.hid (show V2.heap.size < V3.heap.size by rw [← hV, World.size_alloc]; omega)
            have HS3 := Lib.hid (Go.RowKit.Below.tr HS2.out HK2.out (Nat.le_refl _))
            clear hV
            refine wpAnyH_ready (rs := [3]) (by kernel_rfl) (by simp) ?_
            refine AllReadyH.cons (o := ⟨some 37, _, _, _, _, _⟩) rfl (fun K hK => ?_) AllReadyH.nil
            go_simp
            refine (HC2.out _ HS3.out).mono ?_
            rintro e V4 ⟨a6, rfl, ht, hb⟩
            have HK3 := Lib.hid hb
            have HS4 := Lib.hid (Go.RowKit.Below.tr HS3.out hb (Nat.le_refl _))
            have HT6 := Lib.hid ht
            clear hb ht
            dsimp only
            refine hK.out _ _ HS4.out (fun _ => ?_)
            clear hK K
            try simp only [Act.put, List.setIfInBounds_toArray, List.set_cons_zero, List.set_cons_succ]
            have z5 := ((Go.RowKit.Below.tr HK2.out HK3.out (Nat.le_refl _)).block _ HL5.out).trans HZ5.out
            have z6 := (HK3.out.block _ HL6.out).trans HZ6.out
            have hput := fun F hF => put_twoZ (F := F) (k := 8) (n := 0) (l := 1) (k' := 8) (n' := 0) (l' := 1) ⟨rfl, rfl, rfl⟩ ⟨rfl, rfl, rfl⟩ HR3.out HR4.out z5 z6 (ty_later HT5.out (Go.RowKit.Below.tr (Go.RowKit.Below.tr HK1.out HK2.out (Nat.le_refl _)) HK3.out (Nat.le_refl _))) (ty_later HT6.out (Below.refl V4.heap.size V4)) HS4.out (Nat.le_trans HS0.out.size (by have := HK0.out.size; have := HK1.out.size; have := HK2.out.size; have := HK3.out.size; have := HL5.out; have := HL6.out; omega)) (Nat.le_trans HS0.out.size (by have := HK0.out.size; have := HK1.out.size; have := HK2.out.size; have := HK3.out.size; have := HL5.out; have := HL6.out; omega)) (by have := HK0.out.size; have := HK1.out.size; have := HK2.out.size; have := HK3.out.size; have := HL5.out; have := HL6.out; omega) hF
            have HPUT := Lib.hid hput
            clear hput
            obtain ⟨z50, z51, z52, f50, f51, f52⟩ := zero_three z5
            refine wpAnyH_ready (rs := [6]) (by kernel_rfl) (by simp) ?_
            refine AllReadyH.cons (o := ⟨none, _, _, _, _, _⟩) rfl (fun K hK => ?_) AllReadyH.nil
            go_simp
            refine hK.out _ _ (put_halfZ HS4.out (Nat.le_trans HS0.out.size (by have := HK0.out.size; have := HK1.out.size; have := HK2.out.size; have := HK3.out.size; have := HL5.out; have := HL6.out; omega))) (fun _ => ?_)
            clear hK K
            try simp only [Act.put, List.setIfInBounds_toArray, List.set_cons_zero, List.set_cons_succ]
            clear z50 z51 z52 f50 f51 f52
            have y6 := (set3_other (V := V4) (b := V1.heap.size) (v0 := .int .i64 8) (v1 := .int .i64 0) (v2 := .slice (some ⟨a5, 0, none⟩) 1 1) (k := V2.heap.size) (by have := HK0.out.size; have := HK1.out.size; have := HK2.out.size; have := HK3.out.size; have := HL5.out; have := HL6.out; omega)).trans z6
            obtain ⟨V5, hV5⟩ : ∃ V, ((V4.setCell ⟨V1.heap.size, 0, none⟩ (.int .i64 8)).setCell ⟨V1.heap.size, 1, none⟩ (.int .i64 0)).setCell ⟨V1.heap.size, 2, none⟩ (.slice (some ⟨a5, 0, none⟩) 1 1) = V := ⟨_, rfl⟩
            rw [hV5] at y6 ⊢
            have HPU2 := Lib.hid (HPUT.out _ (by rw [hV5]))
            obtain ⟨z60, z61, z62, f60, f61, f62⟩ := zero_three y6
            refine wpAnyH_ready (rs := [7]) (by kernel_rfl) (by simp) ?_
            refine AllReadyH.cons (o := ⟨none, _, _, _, _, _⟩) rfl (fun K hK => ?_) AllReadyH.nil
            go_simp
            refine hK.out _ _ HPU2.out.2.2 (fun _ => ?_)
            clear hK K
            try simp only [Act.put, List.setIfInBounds_toArray, List.set_cons_zero, List.set_cons_succ]
            refine wpAnyH_done (by kernel_rfl) ?_ _
            go_wp2_with fail
            go_meet
            case rel => exact ⟨_, _, _, _, rfl, rfl, HPU2.out.1, HPU2.out.2.1, HPU2.out.2.2⟩
        · skip
          go_simp
          refine hK.out _ _ (HS1.out.alloc HS1.out.size (.cells #[.int .i64 0, .int .i64 0, .slice none 0 0] 24)) (fun _ => ?_)
          clear hK K
          try simp only [Act.put, List.setIfInBounds_toArray, List.set_cons_zero, List.set_cons_succ]
          obtain ⟨V2, hV⟩ : ∃ V, V1.alloc (.cells #[.int .i64 0, .int .i64 0, .slice none 0 0] 24) = V := ⟨_, rfl⟩
          rw [hV]
          have HK1 := Lib.hid (show Below V1.heap.size V1 V2 by rw [← hV]; exact (Below.refl _ _).alloc (Nat.le_refl _) _)
          have HZ6 := Lib.hid (show V2.heap[V1.heap.size]? = some (.cells #[.int .i64 0, .int .i64 0, .slice none 0 0] 24) by rw [← hV]; exact World.alloc_heap_new _ _)
          have HL6 := Lib.hid (show V1.heap.size < V2.heap.size by rw [← hV, World.size_alloc]; omega)
          have HS2 := Lib.hid (Go.RowKit.Below.tr HS1.out HK1.out (Nat.le_refl _))
          clear hV
          refine wpAnyH_ready (rs := [3, 4]) (by kernel_rfl) (by simp) ?_
          refine AllReadyH.cons (o := ⟨some 37, _, _, _, _, _⟩) rfl (fun K hK => ?_) (AllReadyH.cons (o := ⟨some 13, _, _, _, _, _⟩) rfl (fun K hK => ?_) AllReadyH.nil)
          · skip
            go_simp
            refine (HC2.out _ HS2.out).mono ?_
            rintro e V3 ⟨a6, rfl, ht, hb⟩
            have HK2 := Lib.hid hb
            have HS3 := Lib.hid (Go.RowKit.Below.tr HS2.out hb (Nat.le_refl _))
            have HT6 := Lib.hid ht
            clear hb ht
            dsimp only
            refine hK.out _ _ HS3.out (fun _ => ?_)
            clear hK K
            try simp only [Act.put, List.setIfInBounds_toArray, List.set_cons_zero, List.set_cons_succ]
            refine wpAnyH_ready (rs := [4]) (by kernel_rfl) (by simp) ?_
            refine AllReadyH.cons (o := ⟨some 13, _, _, _, _, _⟩) rfl (fun K hK => ?_) AllReadyH.nil
            go_simp
            refine hK.out _ _ (HS3.out.alloc HS3.out.size (.cells #[.int .i64 0, .int .i64 0, .slice none 0 0] 24)) (fun _ => ?_)
            clear hK K
            try simp only [Act.put, List.setIfInBounds_toArray, List.set_cons_zero, List.set_cons_succ]
            obtain ⟨V4, hV⟩ : ∃ V, V3.alloc (.cells #[.int .i64 0, .int .i64 0, .slice none 0 0] 24) = V := ⟨_, rfl⟩
            rw [hV]
            have HK3 := Lib.hid (show Below V3.heap.size V3 V4 by rw [← hV]; exact (Below.refl _ _).alloc (Nat.le_refl _) _)
            have HZ5 := Lib.hid (show V4.heap[V3.heap.size]? = some (.cells #[.int .i64 0, .int .i64 0, .slice none 0 0] 24) by rw [← hV]; exact World.alloc_heap_new _ _)
            have HL5 := Lib.hid (show V3.heap.size < V4.heap.size by rw [← hV, World.size_alloc]; omega)
            have HS4 := Lib.hid (Go.RowKit.Below.tr HS3.out HK3.out (Nat.le_refl _))
            clear hV
            have z5 := ((Below.refl V4.heap.size V4).block _ HL5.out).trans HZ5.out
            have z6 := ((Go.RowKit.Below.tr HK2.out HK3.out (Nat.le_refl _)).block _ HL6.out).trans HZ6.out
            have hput := fun F hF => put_twoZ (F := F) (k := 8) (n := 0) (l := 1) (k' := 8) (n' := 0) (l' := 1) ⟨rfl, rfl, rfl⟩ ⟨rfl, rfl, rfl⟩ HR3.out HR4.out z5 z6 (ty_later HT5.out (Go.RowKit.Below.tr (Go.RowKit.Below.tr HK1.out HK2.out (Nat.le_refl _)) HK3.out (Nat.le_refl _))) (ty_later HT6.out HK3.out) HS4.out (Nat.le_trans HS0.out.size (by have := HK0.out.size; have := HK1.out.size; have := HK2.out.size; have := HK3.out.size; have := HL5.out; have := HL6.out; omega)) (Nat.le_trans HS0.out.size (by have := HK0.out.size; have := HK1.out.size; have := HK2.out.size; have := HK3.out.size; have := HL5.out; have := HL6.out; omega)) (by have := HK0.out.size; have := HK1.out.size; have := HK2.out.size; have := HK3.out.size; have := HL5.out; have := HL6.out; omega) hF
            have HPUT := Lib.hid hput
            clear hput
            obtain ⟨z50, z51, z52, f50, f51, f52⟩ := zero_three z5
            refine wpAnyH_ready (rs := [6]) (by kernel_rfl) (by simp) ?_
            refine AllReadyH.cons (o := ⟨none, _, _, _, _, _⟩) rfl (fun K hK => ?_) AllReadyH.nil
            go_simp
            refine hK.out _ _ (put_halfZ HS4.out (Nat.le_trans HS0.out.size (by have := HK0.out.size; have := HK1.out.size; have := HK2.out.size; have := HK3.out.size; have := HL5.out; have := HL6.out; omega))) (fun _ => ?_)
            clear hK K
            try simp only [Act.put, List.setIfInBounds_toArray, List.set_cons_zero, List.set_cons_succ]
            clear z50 z51 z52 f50 f51 f52
            have y6 := (set3_other (V := V4) (b := V3.heap.size) (v0 := .int .i64 8) (v1 := .int .i64 0) (v2 := .slice (some ⟨a5, 0, none⟩) 1 1) (k := V1.heap.size) (by have := HK0.out.size; have := HK1.out.size; have := HK2.out.size; have := HK3.out.size; have := HL5.out; have := HL6.out; omega)).trans z6
            obtain ⟨V5, hV5⟩ : ∃ V, ((V4.setCell ⟨V3.heap.size, 0, none⟩ (.int .i64 8)).setCell ⟨V3.heap.size, 1, none⟩ (.int .i64 0)).setCell ⟨V3.heap.size, 2, none⟩ (.slice (some ⟨a5, 0, none⟩) 1 1) = V := ⟨_, rfl⟩
            rw [hV5] at y6 ⊢
            have HPU2 := Lib.hid (HPUT.out _ (by rw [hV5]))
            obtain ⟨z60, z61, z62, f60, f61, f62⟩ := zero_three y6
            refine wpAnyH_ready (rs := [7]) (by kernel_rfl) (by simp) ?_
            refine AllReadyH.cons (o := ⟨none, _, _, _, _, _⟩) rfl (fun K hK => ?_) AllReadyH.nil
            go_simp
            refine hK.out _ _ HPU2.out.2.2 (fun _ => ?_)
            clear hK K
            try simp only [Act.put, List.setIfInBounds_toArray, List.set_cons_zero, List.set_cons_succ]
            refine wpAnyH_done (by kernel_rfl) ?_ _
            go_wp2_with fail
            go_meet
            case rel => exact ⟨_, _, _, _, rfl, rfl, HPU2.out.1, HPU2.out.2.1, HPU2.out.2.2⟩
          · skip
            go_simp
            refine hK.out _ _ (HS2.out.alloc HS2.out.size (.cells #[.int .i64 0, .int .i64 0, .slice none 0 0] 24)) (fun _ => ?_)
            clear hK K
            try simp only [Act.put, List.setIfInBounds_toArray, List.set_cons_zero, List.set_cons_succ]
            obtain ⟨V3, hV⟩ : ∃ V, V2.alloc (.cells #[.int .i64 0, .int .i64 0, .slice none 0 0] 24) = V := ⟨_, rfl⟩
            rw [hV]
            have HK2 := Lib.hid (show Below V2.heap.size V2 V3 by rw [← hV]; exact (Below.refl _ _).alloc (Nat.le_refl _) _)
            have HZ5 := Lib.hid (show V3.heap[V2.heap.size]? = some (.cells #[.int .i64 0, .int .i64 0, .slice none 0 0] 24) by rw [← hV]; exact World.alloc_heap_new _ _)
            have HL5 := Lib.hid (show V2.heap.size < V3.heap.size by rw [← hV, World.size_alloc]; omega)
            have HS3 := Lib.hid (Go.RowKit.Below.tr HS2.out HK2.out (Nat.le_refl _))
            clear hV
            refine wpAnyH_ready (rs := [3]) (by kernel_rfl) (by simp) ?_
            refine AllReadyH.cons (o := ⟨some 37, _, _, _, _, _⟩) rfl (fun K hK => ?_) AllReadyH.nil
            go_simp
            refine (HC2.out _ HS3.out).mono ?_
            rintro e V4 ⟨a6, rfl, ht, hb⟩
            have HK3 := Lib.hid hb
            have HS4 := Lib.hid (Go.RowKit.Below.tr HS3.out hb (Nat.le_refl _))
            have HT6 := Lib.hid ht
            clear hb ht
            dsimp only
            refine hK.out _ _ HS4.out (fun _ => ?_)
            clear hK K
            try simp only [Act.put, List.setIfInBounds_toArray, List.set_cons_zero, List.set_cons_succ]
            have z5 := (HK3.out.block _ HL5.out).trans HZ5.out
            have z6 := ((Go.RowKit.Below.tr HK2.out HK3.out (Nat.le_refl _)).block _ HL6.out).trans HZ6.out
            have hput := fun F hF => put_twoZ (F := F) (k := 8) (n := 0) (l := 1) (k' := 8) (n' := 0) (l' := 1) ⟨rfl, rfl, rfl⟩ ⟨rfl, rfl, rfl⟩ HR3.out HR4.out z5 z6 (ty_later HT5.out (Go.RowKit.Below.tr (Go.RowKit.Below.tr HK1.out HK2.out (Nat.le_refl _)) HK3.out (Nat.le_refl _))) (ty_later HT6.out (Below.refl V4.heap.size V4)) HS4.out (Nat.le_trans HS0.out.size (by have := HK0.out.size; have := HK1.out.size; have := HK2.out.size; have := HK3.out.size; have := HL5.out; have := HL6.out; omega)) (Nat.le_trans HS0.out.size (by have := HK0.out.size; have := HK1.out.size; have := HK2.out.size; have := HK3.out.size; have := HL5.out; have := HL6.out; omega)) (by have := HK0.out.size; have := HK1.out.size; have := HK2.out.size; have := HK3.out.size; have := HL5.out; have := HL6.out; omega) hF
            have HPUT := Lib.hid hput
            clear hput
            obtain ⟨z50, z51, z52, f50, f51, f52⟩ := zero_three z5
            refine wpAnyH_ready (rs := [6]) (by kernel_rfl) (by simp) ?_
            refine AllReadyH.cons (o := ⟨none, _, _, _, _, _⟩) rfl (fun K hK => ?_) AllReadyH.nil
            go_simp
            refine hK.out _ _ (put_halfZ HS4.out (Nat.le_trans HS0.out.size (by have := HK0.out.size; have := HK1.out.size; have := HK2.out.size; have := HK3.out.size; have := HL5.out; have := HL6.out; omega))) (fun _ => ?_)
            clear hK K
            try simp only [Act.put, List.setIfInBounds_toArray, List.set_cons_zero, List.set_cons_succ]
            clear z50 z51 z52 f50 f51 f52
            have y6 := (set3_other (V := V4) (b := V2.heap.size) (v0 := .int .i64 8) (v1 := .int .i64 0) (v2 := .slice (some ⟨a5, 0, none⟩) 1 1) (k := V1.heap.size) (by have := HK0.out.size; have := HK1.out.size; have := HK2.out.size; have := HK3.out.size; have := HL5.out; have := HL6.out; omega)).trans z6
            obtain ⟨V5, hV5⟩ : ∃ V, ((V4.setCell ⟨V2.heap.size, 0, none⟩ (.int .i64 8)).setCell ⟨V2.heap.size, 1, none⟩ (.int .i64 0)).setCell ⟨V2.heap.size, 2, none⟩ (.slice (some ⟨a5, 0, none⟩) 1 1) = V := ⟨_, rfl⟩
            rw [hV5] at y6 ⊢
            have HPU2 := Lib.hid (HPUT.out _ (by rw [hV5]))
            obtain ⟨z60, z61, z62, f60, f61, f62⟩ := zero_three y6
            refine wpAnyH_ready (rs := [7]) (by kernel_rfl) (by simp) ?_
            refine AllReadyH.cons (o := ⟨none, _, _, _, _, _⟩) rfl (fun K hK => ?_) AllReadyH.nil
            go_simp
            refine hK.out _ _ HPU2.out.2.2 (fun _ => ?_)
            clear hK K
            try simp only [Act.put, List.setIfInBounds_toArray, List.set_cons_zero, List.set_cons_succ]
            refine wpAnyH_done (by kernel_rfl) ?_ _
            go_wp2_with fail
            go_meet
            case rel => exact ⟨_, _, _, _, rfl, rfl, HPU2.out.1, HPU2.out.2.1, HPU2.out.2.2⟩
      · skip
        go_simp
        refine hK.out _ _ (HS0.out.alloc HS0.out.size (.cells #[.int .i64 0, .int .i64 0, .slice none 0 0] 24)) (fun _ => ?_)
        clear hK K
        try simp only [Act.put, List.setIfInBounds_toArray, List.set_cons_zero, List.set_cons_succ]
        obtain ⟨V1, hV⟩ : ∃ V, V0.alloc (.cells #[.int .i64 0, .int .i64 0, .slice none 0 0] 24) = V := ⟨_, rfl⟩
        rw [hV]
        have HK0 := Lib.hid (show Below V0.heap.size V0 V1 by rw [← hV]; exact (Below.refl _ _).alloc (Nat.le_refl _) _)
        have HZ5 := Lib.hid (show V1.heap[V0.heap.size]? = some (.cells #[.int .i64 0, .int .i64 0, .slice none 0 0] 24) by rw [← hV]; exact World.alloc_heap_new _ _)
        have HL5 := Lib.hid (show V0.heap.size < V1.heap.size by rw [← hV, World.size_alloc]; omega)
        have HS1 := Lib.hid (Go.RowKit.Below.tr HS0.out HK0.out (Nat.le_refl _))
        clear hV
        refine wpAnyH_ready (rs := [1, 5]) (by kernel_rfl) (by simp) ?_
        refine AllReadyH.cons (o := ⟨some 35, _, _, _, _, _⟩) rfl (fun K hK => ?_) (AllReadyH.cons (o := ⟨some 14, _, _, _, _, _⟩) rfl (fun K hK => ?_) AllReadyH.nil)
        · skip
          go_simp
          refine (HC1.out _ HS1.out).mono ?_
          rintro e V2 ⟨a5, rfl, ht, hb⟩
          have HK1 := Lib.hid hb
          have HS2 := Lib.hid (Go.RowKit.Below.tr HS1.out hb (Nat.le_refl _))
          have HT5 := Lib.hid ht
          clear hb ht
          dsimp only
          refine hK.out _ _ HS2.out (fun _ => ?_)
          clear hK K
          try simp only [Act.put, List.setIfInBounds_toArray, List.set_cons_zero, List.set_cons_succ]
          refine wpAnyH_ready (rs := [3, 5]) (by kernel_rfl) (by simp) ?_
          refine AllReadyH.cons (o := ⟨some 37, _, _, _, _, _⟩) rfl (fun K hK => ?_) (AllReadyH.cons (o := ⟨some 14, _, _, _, _, _⟩) rfl (fun K hK => ?_) AllReadyH.nil)
          · skip
            go_simp
            refine (HC2.out _ HS2.out).mono ?_
            rintro e V3 ⟨a6, rfl, ht, hb⟩
            have HK2 := Lib.hid hb
            have HS3 := Lib.hid (Go.RowKit.Below.tr HS2.out hb (Nat.le_refl _))
            have HT6 := Lib.hid ht
            clear hb ht
            dsimp only
            refine hK.out _ _ HS3.out (fun _ => ?_)
            clear hK K
            try simp only [Act.put, List.setIfInBounds_toArray, List.set_cons_zero, List.set_cons_succ]
            refine wpAnyH_ready (rs := [5]) (by kernel_rfl) (by simp) ?_
            refine AllReadyH.cons (o := ⟨some 14, _, _, _, _, _⟩) rfl (fun K hK => ?_) AllReadyH.nil
            go_simp
            refine hK.out _ _ (HS3.out.alloc HS3.out.size (.cells #[.int .i64 0, .int .i64 0, .slice none 0 0] 24)) (fun _ => ?_)
            clear hK K
            try simp only [Act.put, List.setIfInBounds_toArray, List.set_cons_zero, List.set_cons_succ]
            obtain ⟨V4, hV⟩ : ∃ V, V3.alloc (.cells #[.int .i64 0, .int .i64 0, .slice none 0 0] 24) = V := ⟨_, rfl⟩
            rw [hV]
            have HK3 := Lib.hid (show Below V3.heap.size V3 V4 by rw [← hV]; exact (Below.refl _ _).alloc (Nat.le_refl _) _)
            have HZ6 := Lib.hid (show V4.heap[V3.heap.size]? = some (.cells #[.int .i64 0, .int .i64 0, .slice none 0 0] 24) by rw [← hV]; exact World.alloc_heap_new _ _)
            have HL6 := Lib.hid (show V3.heap.size < V4.heap.size by rw [← hV, World.size_alloc]; omega)
            have HS4 := Lib.hid (Go.RowKit.Below.tr HS3.out HK3.out (Nat.le_refl _))
            clear hV
            have z5 := ((Go.RowKit.Below.tr (Go.RowKit.Below.tr HK1.out HK2.out (Nat.le_refl _)) HK3.out (Nat.le_refl _)).block _ HL5.out).trans HZ5.out
            have z6 := ((Below.refl V4.heap.size V4).block _ HL6.out).trans HZ6.out
            have hput := fun F hF => put_twoZ (F := F) (k := 8) (n := 0) (l := 1) (k' := 8) (n' := 0) (l' := 1) ⟨rfl, rfl, rfl⟩ ⟨rfl, rfl, rfl⟩ HR3.out HR4.out z5 z6 (ty_later HT5.out (Go.RowKit.Below.tr HK2.out HK3.out (Nat.le_refl _))) (ty_later HT6.out HK3.out) HS4.out (Nat.le_trans HS0.out.size (by have := HK0.out.size; have := HK1.out.size; have := HK2.out.size; have := HK3.out.size; have := HL5.out; have := HL6.out; omega)) (Nat.le_trans HS0.out.size (by have := HK0.out.size; have := HK1.out.size; have := HK2.out.size; have := HK3.out.size; have := HL5.out; have := HL6.out; omega)) (by have := HK0.out.size; have := HK1.out.size; have := HK2.out.size; have := HK3.out.size; have := HL5.out; have := HL6.out; omega) hF
            have HPUT := Lib.hid hput
            clear hput
            obtain ⟨z50, z51, z52, f50, f51, f52⟩ := zero_three z5
            refine wpAnyH_ready (rs := [6]) (by kernel_rfl) (by simp) ?_
            refine AllReadyH.cons (o := ⟨none, _, _, _, _, _⟩) rfl (fun K hK => ?_) AllReadyH.nil
            go_simp
            refine hK.out _ _ (put_halfZ HS4.out (Nat.le_trans HS0.out.size (by have := HK0.out.size; have := HK1.out.size; have := HK2.out.size; have := HK3.out.size; have := HL5.out; have := HL6.out; omega))) (fun _ => ?_)
            clear hK K
            try simp only [Act.put, List.setIfInBounds_toArray, List.set_cons_zero, List.set_cons_succ]
            clear z50 z51 z52 f50 f51 f52
            have y6 := (set3_other (V := V4) (b := V0.heap.size) (v0 := .int .i64 8) (v1 := .int .i64 0) (v2 := .slice (some ⟨a5, 0, none⟩) 1 1) (k := V3.heap.size) (by have := HK0.out.size; have := HK1.out.size; have := HK2.out.size; have := HK3.out.size; have := HL5.out; have := HL6.out; omega)).trans z6
            obtain ⟨V5, hV5⟩ : ∃ V, ((V4.setCell ⟨V0.heap.size, 0, none⟩ (.int .i64 8)).setCell ⟨V0.heap.size, 1, none⟩ (.int .i64 0)).setCell ⟨V0.heap.size, 2, none⟩ (.slice (some ⟨a5, 0, none⟩) 1 1) = V := ⟨_, rfl⟩
            rw [hV5] at y6 ⊢
            have HPU2 := Lib.hid (HPUT.out _ (by rw [hV5]))
            obtain ⟨z60, z61, z62, f60, f61, f62⟩ := zero_three y6
            refine wpAnyH_ready (rs := [7]) (by kernel_rfl) (by simp) ?_
            refine AllReadyH.cons (o := ⟨none, _, _, _, _, _⟩) rfl (fun K hK => ?_) AllReadyH.nil
            go_simp
            refine hK.out _ _ HPU2.out.2.2 (fun _ => ?_)
            clear hK K
            try simp only [Act.put, List.setIfInBounds_toArray, List.set_cons_zero, List.set_cons_succ]
            refine wpAnyH_done (by kernel_rfl) ?_ _
            go_wp2_with fail
            go_meet
            case rel => exact ⟨_, _, _, _, rfl, rfl, HPU2.out.1, HPU2.out.2.1, HPU2.out.2.2⟩
          · skip
            go_simp
            refine hK.out _ _ (HS2.out.alloc HS2.out.size (.cells #[.int .i64 0, .int .i64 0, .slice none 0 0] 24)) (fun _ => ?_)
            clear hK K
            try simp only [Act.put, List.setIfInBounds_toArray, List.set_cons_zero, List.set_cons_succ]
            obtain ⟨V3, hV⟩ : ∃ V, V2.alloc (.cells #[.int .i64 0, .int .i64 0, .slice none 0 0] 24) = V := ⟨_, rfl⟩
            rw [hV]
            have HK2 := Lib.hid (show Below V2.heap.size V2 V3 by rw [← hV]; exact (Below.refl _ _).alloc (Nat.le_refl _) _)
            have HZ6 := Lib.hid (show V3.heap[V2.heap.size]? = some (.cells #[.int .i64 0, .int .i64 0, .slice none 0 0] 24) by rw [← hV]; exact World.alloc_heap_new _ _)
            have HL6 := Lib.hid (show V2.heap.size < V3.heap.size by rw [← hV, World.size_alloc]; omega)
            have HS3 := Lib.hid (Go.RowKit.Below.tr HS2.out HK2.out (Nat.le_refl _))
            clear hV
            refine wpAnyH_ready (rs := [3]) (by kernel_rfl) (by simp) ?_
            refine AllReadyH.cons (o := ⟨some 37, _, _, _, _, _⟩) rfl (fun K hK => ?_) AllReadyH.nil
            go_simp
            refine (HC2.out _ HS3.out).mono ?_
            rintro e V4 ⟨a6, rfl, ht, hb⟩
            have HK3 := Lib.hid hb
            have HS4 := Lib.hid (Go.RowKit.Below.tr HS3.out hb (Nat.le_refl _))
            have HT6 := Lib.hid ht
            clear hb ht
            dsimp only
            refine hK.out _ _ HS4.out (fun _ => ?_)
            clear hK K
            try simp only [Act.put, List.setIfInBounds_toArray, List.set_cons_zero, List.set_cons_succ]
            have z5 := ((Go.RowKit.Below.tr (Go.RowKit.Below.tr HK1.out HK2.out (Nat.le_refl _)) HK3.out (Nat.le_refl _)).block _ HL5.out).trans HZ5.out
            have z6 := (HK3.out.block _ HL6.out).trans HZ6.out
            have hput := fun F hF => put_twoZ (F := F) (k := 8) (n := 0) (l := 1) (k' := 8) (n' := 0) (l' := 1) ⟨rfl, rfl, rfl⟩ ⟨rfl, rfl, rfl⟩ HR3.out HR4.out z5 z6 (ty_later HT5.out (Go.RowKit.Below.tr HK2.out HK3.out (Nat.le_refl _))) (ty_later HT6.out (Below.refl V4.heap.size V4)) HS4.out (Nat.le_trans HS0.out.size (by have := HK0.out.size; have := HK1.out.size; have := HK2.out.size; have := HK3.out.size; have := HL5.out; have := HL6.out; omega)) (Nat.le_trans HS0.out.size (by have := HK0.out.size; have := HK1.out.size; have := HK2.out.size; have := HK3.out.size; have := HL5.out; have := HL6.out; omega)) (by have := HK0.out.size; have := HK1.out.size; have := HK2.out.size; have := HK3.out.size; have := HL5.out; have := HL6.out; omega) hF
            have HPUT := Lib.hid hput
            clear hput
            obtain ⟨z50, z51, z52, f50, f51, f52⟩ := zero_three z5
            refine wpAnyH_ready (rs := [6]) (by kernel_rfl) (by simp) ?_
            refine AllReadyH.cons (o := ⟨none, _, _, _, _, _⟩) rfl (fun K hK => ?_) AllReadyH.nil
            go_simp
            refine hK.out _ _ (put_halfZ HS4.out (Nat.le_trans HS0.out.size (by have := HK0.out.size; have := HK1.out.size; have := HK2.out.size; have := HK3.out.size; have := HL5.out; have := HL6.out; omega))) (fun _ => ?_)
            clear hK K
            try simp only [Act.put, List.setIfInBounds_toArray, List.set_cons_zero, List.set_cons_succ]
            clear z50 z51 z52 f50 f51 f52
            have y6 := (set3_other (V := V4) (b := V0.heap.size) (v0 := .int .i64 8) (v1 := .int .i64 0) (v2 := .slice (some ⟨a5, 0, none⟩) 1 1) (k := V2.heap.size) (by have := HK0.out.size; have := HK1.out.size; have := HK2.out.size; have := HK3.out.size; have := HL5.out; have := HL6.out; omega)).trans z6
            obtain ⟨V5, hV5⟩ : ∃ V, ((V4.setCell ⟨V0.heap.size, 0, none⟩ (.int .i64 8)).setCell ⟨V0.heap.size, 1, none⟩ (.int .i64 0)).setCell ⟨V0.heap.size, 2, none⟩ (.slice (some ⟨a5, 0, none⟩) 1 1) = V := ⟨_, rfl⟩
            rw [hV5] at y6 ⊢
            have HPU2 := Lib.hid (HPUT.out _ (by rw [hV5]))
            obtain ⟨z60, z61, z62, f60, f61, f62⟩ := zero_three y6
            refine wpAnyH_ready (rs := [7]) (by kernel_rfl) (by simp) ?_
            refine AllReadyH.cons (o := ⟨none, _, _, _, _, _⟩) rfl (fun K hK => ?_) AllReadyH.nil
            go_simp
            refine hK.out _ _ HPU2.out.2.2 (fun _ => ?_)
            clear hK K
            try simp only [Act.put, List.setIfInBounds_toArray, List.set_cons_zero, List.set_cons_succ]
            refine wpAnyH_done (by kernel_rfl) ?_ _
            go_wp2_with fail
            go_meet
            case rel => exact ⟨_, _, _, _, rfl, rfl, HPU2.out.1, HPU2.out.2.1, HPU2.out.2.2⟩
        · skip
          go_simp
          refine hK.out _ _ (HS1.out.alloc HS1.out.size (.cells #[.int .i64 0, .int .i64 0, .slice none 0 0] 24)) (fun _ => ?_)
          clear hK K
          try simp only [Act.put, List.setIfInBounds_toArray, List.set_cons_zero, List.set_cons_succ]
          obtain ⟨V2, hV⟩ : ∃ V, V1.alloc (.cells #[.int .i64 0, .int .i64 0, .slice none 0 0] 24) = V := ⟨_, rfl⟩
          rw [hV]
          have HK1 := Lib.hid (show Below V1.heap.size V1 V2 by rw [← hV]; exact (Below.refl _ _).alloc (Nat.le_refl _) _)
          have HZ6 := Lib.hid (show V2.heap[V1.heap.size]? = some (.cells #[.int .i64 0, .int .i64 0, .slice none 0 0] 24) by rw [← hV]; exact World.alloc_heap_new _ _)
          have HL6 := Lib.hid (show V1.heap.size < V2.heap.size by rw [← hV, World.size_alloc]; omega)
          have HS2 := Lib.hid (Go.RowKit.Below.tr HS1.out HK1.out (Nat.le_refl _))
          clear hV
          refine wpAnyH_ready (rs := [1]) (by kernel_rfl) (by simp) ?_
          refine AllReadyH.cons (o := ⟨some 35, _, _, _, _, _⟩) rfl (fun K hK => ?_) AllReadyH.nil
          go_simp
          refine (HC1.out _ HS2.out).mono ?_
          rintro e V3 ⟨a5, rfl, ht, hb⟩
          have HK2 := Lib.hid hb
          have HS3 := Lib.hid (Go.RowKit.Below.tr HS2.out hb (Nat.le_refl _))
          have HT5 := Lib.hid ht
          clear hb ht
          dsimp only
          refine hK.out _ _ HS3.out (fun _ => ?_)
          clear hK K
          try simp only [Act.put, List.setIfInBounds_toArray, List.set_cons_zero, List.set_cons_succ]
          refine wpAnyH_ready (rs := [3]) (by kernel_rfl) (by simp) ?_
          refine AllReadyH.cons (o := ⟨some 37, _, _, _, _, _⟩) rfl (fun K hK => ?_) AllReadyH.nil
          go_simp
          refine (HC2.out _ HS3.out).mono ?_
          rintro e V4 ⟨a6, rfl, ht, hb⟩
          have HK3 := Lib.hid hb
          have HS4 := Lib.hid (Go.RowKit.Below.tr HS3.out hb (Nat.le_refl _))
          have HT6 := Lib.hid ht
          clear hb ht
          dsimp only
          refine hK.out _ _ HS4.out (fun _ => ?_)
          clear hK K
          try simp only [Act.put, List.setIfInBounds_toArray, List.set_cons_zero, List.set_cons_succ]
          have z5 := ((Go.RowKit.Below.tr (Go.RowKit.Below.tr HK1.out HK2.out (Nat.le_refl _)) HK3.out (Nat.le_refl _)).block _ HL5.out).trans HZ5.out
          have z6 := ((Go.RowKit.Below.tr HK2.out HK3.out (Nat.le_refl _)).block _ HL6.out).trans HZ6.out
          have hput := fun F hF => put_twoZ (F := F) (k := 8) (n := 0) (l := 1) (k' := 8) (n' := 0) (l' := 1) ⟨rfl, rfl, rfl⟩ ⟨rfl, rfl, rfl⟩ HR3.out HR4.out z5 z6 (ty_later HT5.out HK3.out) (ty_later HT6.out (Below.refl V4.heap.size V4)) HS4.out (Nat.le_trans HS0.out.size (by have := HK0.out.size; have := HK1.out.size; have := HK2.out.size; have := HK3.out.size; have := HL5.out; have := HL6.out; omega)) (Nat.le_trans HS0.out.size (by have := HK0.out.size; have := HK1.out.size; have := HK2.out.size; have := HK3.out.size; have := HL5.out; have := HL6.out; omega)) (by have := HK0.out.size; have := HK1.out.size; have := HK2.out.size; have := HK3.out.size; have := HL5.out; have := HL6.out; omega) hF
          have HPUT := Lib.hid hput
          clear hput
          obtain ⟨z50, z51, z52, f50, f51, f52⟩ := zero_three z5
          refine wpAnyH_ready (rs := [6]) (by kernel_rfl) (by simp) ?_
          refine AllReadyH.cons (o := ⟨none, _, _, _, _, _⟩) rfl (fun K hK => ?_) AllReadyH.nil
          go_simp
          refine hK.out _ _ (put_halfZ HS4.out (Nat.le_trans HS0.out.size (by have := HK0.out.size; have := HK1.out.size; have := HK2.out.size; have := HK3.out.size; have := HL5.out; have := HL6.out; omega))) (fun _ => ?_)
          clear hK K
          try simp only [Act.put, List.setIfInBounds_toArray, List.set_cons_zero, List.set_cons_succ]
          clear z50 z51 z52 f50 f51 f52
          have y6 := (set3_other (V := V4) (b := V0.heap.size) (v0 := .int .i64 8) (v1 := .int .i64 0) (v2 := .slice (some ⟨a5, 0, none⟩) 1 1) (k := V1.heap.size) (by have := HK0.out.size; have := HK1.out.size; have := HK2.out.size; have := HK3.out.size; have := HL5.out; have := HL6.out; omega)).trans z6
          obtain ⟨V5, hV5⟩ : ∃ V, ((V4.setCell ⟨V0.heap.size, 0, none⟩ (.int .i64 8)).setCell ⟨V0.heap.size, 1, none⟩ (.int .i64 0)).setCell ⟨V0.heap.size, 2, none⟩ (.slice (some ⟨a5, 0, none⟩) 1 1) = V := ⟨_, rfl⟩
          rw [hV5] at y6 ⊢
          have HPU2 := Lib.hid (HPUT.out _ (by rw [hV5]))
          obtain ⟨z60, z61, z62, f60, f61, f62⟩ := zero_three y6
          refine wpAnyH_ready (rs := [7]) (by kernel_rfl) (by simp) ?_
          refine AllReadyH.cons (o := ⟨none, _, _, _, _, _⟩) rfl (fun K hK => ?_) AllReadyH.nil
          go_simp
          refine hK.out _ _ HPU2.out.2.2 (fun _ => ?_)
          clear hK K
          try simp only [Act.put, List.setIfInBounds_toArray, List.set_cons_zero, List.set_cons_succ]
          refine wpAnyH_done (by kernel_rfl) ?_ _
          go_wp2_with fail
          go_meet
          case rel => exact ⟨_, _, _, _, rfl, rfl, HPU2.out.1, HPU2.out.2.1, HPU2.out.2.2⟩
      · skip
        go_simp
        refine hK.out _ _ (HS0.out.alloc HS0.out.size (.cells #[.int .i64 0, .int .i64 0, .slice none 0 0] 24)) (fun _ => ?_)
        clear hK K
        try simp only [Act.put, List.setIfInBounds_toArray, List.set_cons_zero, List.set_cons_succ]
        obtain ⟨V1, hV⟩ : ∃ V, V0.alloc (.cells #[.int .i64 0, .int .i64 0, .slice none 0 0] 24) = V := ⟨_, rfl⟩
        rw [hV]
        have HK0 := Lib.hid (show Below V0.heap.size V0 V1 by rw [← hV]; exact (Below.refl _ _).alloc (Nat.le_refl _) _)
        have HZ6 := Lib.hid (show V1.heap[V0.heap.size]? = some (.cells #[.int .i64 0, .int .i64 0, .slice none 0 0] 24) by rw [← hV]; exact World.alloc_heap_new _ _)
        have HL6 := Lib.hid (show V0.heap.size < V1.heap.size by rw [← hV, World.size_alloc]; omega)
        have HS1 := Lib.hid (Go.RowKit.Below.tr HS0.out HK0.out (Nat.le_refl _))
        clear hV
        refine wpAnyH_ready (rs := [1, 4]) (by kernel_rfl) (by simp) ?_
        refine AllReadyH.cons (o := ⟨some 35, _, _, _, _, _⟩) rfl (fun K hK => ?_) (AllReadyH.cons (o := ⟨some 13, _, _, _, _, _⟩) rfl (fun K hK => ?_) AllReadyH.nil)
        · skip
          go_simp
          refine (HC1.out _ HS1.out).mono ?_
          rintro e V2 ⟨a5, rfl, ht, hb⟩
          have HK1 := Lib.hid hb
          have HS2 := Lib.hid (Go.RowKit.Below.tr HS1.out hb (Nat.le_refl _))
          have HT5 := Lib.hid ht
          clear hb ht
          dsimp only
          refine hK.out _ _ HS2.out (fun _ => ?_)
          clear hK K
          try simp only [Act.put, List.setIfInBounds_toArray, List.set_cons_zero, List.set_cons_succ]
          refine wpAnyH_ready (rs := [3, 4]) (by kernel_rfl) (by simp) ?_
          refine AllReadyH.cons (o := ⟨some 37, _, _, _, _, _⟩) rfl (fun K hK => ?_) (AllReadyH.cons (o := ⟨some 13, _, _, _, _, _⟩) rfl (fun K hK => ?_) AllReadyH.nil)
          · skip
            go_simp
            refine (HC2.out _ HS2.out).mono ?_
            rintro e V3 ⟨a6, rfl, ht, hb⟩
            have HK2 := Lib.hid hb
            have HS3 := Lib.hid (Go.RowKit.Below.tr HS2.out hb (Nat.le_refl _))
            have HT6 := Lib.hid ht
            clear hb ht
            dsimp only
            refine hK.out _ _ HS3.out (fun _ => ?_)
            clear hK K
            try simp only [Act.put, List.setIfInBounds_toArray, List.set_cons_zero, List.set_cons_succ]
            refine wpAnyH_ready (rs := [4]) (by kernel_rfl) (by simp) ?_
            refine AllReadyH.cons (o := ⟨some 13, _, _, _, _, _⟩) rfl (fun K hK => ?_) AllReadyH.nil
            go_simp
            refine hK.out _ _ (HS3.out.alloc HS3.out.size (.cells #[.int .i64 0, .int .i64 0, .slice none 0 0] 24)) (fun _ => ?_)
            clear hK K
            try simp only [Act.put, List.setIfInBounds_toArray, List.set_cons_zero, List.set_cons_succ]
            obtain ⟨V4, hV⟩ : ∃ V, V3.alloc (.cells #[.int .i64 0, .int .i64 0, .slice none 0 0] 24) = V := ⟨_, rfl⟩
            rw [hV]
            have HK3 := Lib.hid (show Below V3.heap.size V3 V4 by rw [← hV]; exact (Below.refl _ _).alloc (Nat.le_refl _) _)
            have HZ5 := Lib.hid (show V4.heap[V3.heap.size]? = some (.cells #[.int .i64 0, .int .i64 0, .slice none 0 0] 24) by rw [← hV]; exact World.alloc_heap_new _ _)
            have HL5 := Lib.hid (show V3.heap.size < V4.heap.size by rw [← hV, World.size_alloc]; omega)
            have HS4 := Lib.hid (Go.RowKit.Below.tr HS3.out HK3.out (Nat.le_refl _))
            clear hV
            have z5 := ((Below.refl V4.heap.size V4).block _ HL5.out).trans HZ5.out
            have z6 := ((Go.RowKit.Below.tr (Go.RowKit.Below.tr HK1.out HK2.out (Nat.le_refl _)) HK3.out (Nat.le_refl _)).block _ HL6.out).trans HZ6.out
            have hput := fun F hF => put_twoZ (F := F) (k := 8) (n := 0) (l := 1) (k' := 8) (n' := 0) (l' := 1) ⟨rfl, rfl, rfl⟩ ⟨rfl, rfl, rfl⟩ HR3.out HR4.out z5 z6 (ty_later HT5.out (Go.RowKit.Below.tr HK2.out HK3.out (Nat.le_refl _))) (ty_later HT6.out HK3.out) HS4.out (Nat.le_trans HS0.out.size (by have := HK0.out.size; have := HK1.out.size; have := HK2.out.size; have := HK3.out.size; have := HL5.out; have := HL6.out; omega)) (Nat.le_trans HS0.out.size (by have := HK0.out.size; have := HK1.out.size; have := HK2.out.size; have := HK3.out.size; have := HL5.out; have := HL6.out; omega)) (by have := HK0.out.size; have := HK1.out.size; have := HK2.out.size; have := HK3.out.size; have := HL5.out; have := HL6.out; omega) hF
            have HPUT := Lib.hid hput
            clear hput
            obtain ⟨z50, z51, z52, f50, f51, f52⟩ := zero_three z5
            refine wpAnyH_ready (rs := [6]) (by kernel_rfl) (by simp) ?_
            refine AllReadyH.cons (o := ⟨none, _, _, _, _, _⟩) rfl (fun K hK => ?_) AllReadyH.nil
            go_simp
            refine hK.out _ _ (put_halfZ HS4.out (Nat.le_trans HS0.out.size (by have := HK0.out.size; have := HK1.out.size; have := HK2.out.size; have := HK3.out.size; have := HL5.out; have := HL6.out; omega))) (fun _ => ?_)
            clear hK K
            try simp only [Act.put, List.setIfInBounds_toArray, List.set_cons_zero, List.set_cons_succ]
            clear z50 z51 z52 f50 f51 f52
            have y6 := (set3_other (V := V4) (b := V3.heap.size) (v0 := .int .i64 8) (v1 := .int .i64 0) (v2 := .slice (some ⟨a5, 0, none⟩) 1 1) (k := V0.heap.size) (by have := HK0.out.size; have := HK1.out.size; have := HK2.out.size; have := HK3.out.size; have := HL5.out; have := HL6.out; omega)).trans z6
            obtain ⟨V5, hV5⟩ : ∃ V, ((V4.setCell ⟨V3.heap.size, 0, none⟩ (.int .i64 8)).setCell ⟨V3.heap.size, 1, none⟩ (.int .i64 0)).setCell ⟨V3.heap.size, 2, none⟩ (.slice (some ⟨a5, 0, none⟩) 1 1) = V := ⟨_, rfl⟩
            rw [hV5] at y6 ⊢
            have HPU2 := Lib.hid (HPUT.out _ (by rw [hV5]))
            obtain ⟨z60, z61, z62, f60, f61, f62⟩ := zero_three y6
            refine wpAnyH_ready (rs := [7]) (by kernel_rfl) (by simp) ?_
            refine AllReadyH.cons (o := ⟨none, _, _, _, _, _⟩) rfl (fun K hK => ?_) AllReadyH.nil
            go_simp
            refine hK.out _ _ HPU2.out.2.2 (fun _ => ?_)
            clear hK K
            try simp only [Act.put, List.setIfInBounds_toArray, List.set_cons_zero, List.set_cons_succ]
            refine wpAnyH_done (by kernel_rfl) ?_ _
            go_wp2_with fail
            go_meet
            case rel => exact ⟨_, _, _, _, rfl, rfl, HPU2.out.1, HPU2.out.2.1, HPU2.out.2.2⟩
          · skip
            go_simp
            refine hK.out _ _ (HS2.out.alloc HS2.out.size (.cells #[.int .i64 0, .int .i64 0, .slice none 0 0] 24)) (fun _ => ?_)
            clear hK K
            try simp only [Act.put, List.setIfInBounds_toArray, List.set_cons_zero, List.set_cons_succ]
            obtain ⟨V3, hV⟩ : ∃ V, V2.alloc (.cells #[.int .i64 0, .int .i64 0, .slice none 0 0] 24) = V := ⟨_, rfl⟩
            rw [hV]
            have HK2 := Lib.hid (show Below V2.heap.size V2 V3 by rw [← hV]; exact (Below.refl _ _).alloc (Nat.le_refl _) _)
            have HZ5 := Lib.hid (show V3.heap[V2.heap.size]? = some (.cells #[.int .i64 0, .int .i64 0, .slice none 0 0] 24) by rw [← hV]; exact World.alloc_heap_new _ _)
            have HL5 := Lib.hid (show V2.heap.size < V3.heap.size by rw [← hV, World.size_alloc]; omega)
            have HS3 := Lib.hid (Go.RowKit.Below.tr HS2.out HK2.out (Nat.le_refl _))
            clear hV
            refine wpAnyH_ready (rs := [3]) (by kernel_rfl) (by simp) ?_
            refine AllReadyH.cons (o := ⟨some 37, _, _, _, _, _⟩) rfl (fun K hK => ?_) AllReadyH.nil
            go_simp
            refine (HC2.out _ HS3.out).mono ?_
            rintro e V4 ⟨a6, rfl, ht, hb⟩
            have HK3 := Lib.hid hb
            have HS4 := Lib.hid (Go.RowKit.Below.tr HS3.out hb (Nat.le_refl _))
            have HT6 := Lib.hid ht
            clear hb ht
            dsimp only
            refine hK.out _ _ HS4.out (fun _ => ?_)
            clear hK K
            try simp only [Act.put, List.setIfInBounds_toArray, List.set_cons_zero, List.set_cons_succ]
            have z5 := (HK3.out.block _ HL5.out).trans HZ5.out
            have z6 := ((Go.RowKit.Below.tr (Go.RowKit.Below.tr HK1.out HK2.out (Nat.le_refl _)) HK3.out (Nat.le_refl _)).block _ HL6.out).trans HZ6.out
            have hput := fun F hF => put_twoZ (F := F) (k := 8) (n := 0) (l := 1) (k' := 8) (n' := 0) (l' := 1) ⟨rfl, rfl, rfl⟩ ⟨rfl, rfl, rfl⟩ HR3.out HR4.out z5 z6 (ty_later HT5.out (Go.RowKit.Below.tr HK2.out HK3.out (Nat.le_refl _))) (ty_later HT6.out (Below.refl V4.heap.size V4)) HS4.out (Nat.le_trans HS0.out.size (by have := HK0.out.size; have := HK1.out.size; have := HK2.out.size; have := HK3.out.size; have := HL5.out; have := HL6.out; omega)) (Nat.le_trans HS0.out.size (by have := HK0.out.size; have := HK1.out.size; have := HK2.out.size; have := HK3.out.size; have := HL5.out; have := HL6.out; omega)) (by have := HK0.out.size; have := HK1.out.size; have := HK2.out.size; have := HK3.out.size; have := HL5.out; have := HL6.out; omega) hF
            have HPUT := Lib.hid hput
            clear hput
            obtain ⟨z50, z51, z52, f50, f51, f52⟩ := zero_three z5
            refine wpAnyH_ready (rs := [6]) (by kernel_rfl) (by simp) ?_
            refine AllReadyH.cons (o := ⟨none, _, _, _, _, _⟩) rfl (fun K hK => ?_) AllReadyH.nil
            go_simp
            refine hK.out _ _ (put_halfZ HS4.out (Nat.le_trans HS0.out.size (by have := HK0.out.size; have := HK1.out.size; have := HK2.out.size; have := HK3.out.size; have := HL5.out; have := HL6.out; omega))) (fun _ => ?_)
            clear hK K
            try simp only [Act.put, List.setIfInBounds_toArray, List.set_cons_zero, List.set_cons_succ]
            clear z50 z51 z52 f50 f51 f52
            have y6 := (set3_other (V := V4) (b := V2.heap.size) (v0 := .int .i64 8) (v1 := .int .i64 0) (v2 := .slice (some ⟨a5, 0, none⟩) 1 1) (k := V0.heap.size) (by have := HK0.out.size; have := HK1.out.size; have := HK2.out.size; have := HK3.out.size; have := HL5.out; have := HL6.out; omega)).trans z6
            obtain ⟨V5, hV5⟩ : ∃ V, ((V4.setCell ⟨V2.heap.size, 0, none⟩ (.int .i64 8)).setCell ⟨V2.heap.size, 1, none⟩ (.int .i64 0)).setCell ⟨V2.heap.size, 2, none⟩ (.slice (some ⟨a5, 0, none⟩) 1 1) = V := ⟨_, rfl⟩
            rw [hV5] at y6 ⊢
            have HPU2 := Lib.hid (HPUT.out _ (by rw [hV5]))
            obtain ⟨z60, z61, z62, f60, f61, f62⟩ := zero_three y6
            refine wpAnyH_ready (rs := [7]) (by kernel_rfl) (by simp) ?_
            refine AllReadyH.cons (o := ⟨none, _, _, _, _, _⟩) rfl (fun K hK => ?_) AllReadyH.nil
            go_simp
            refine hK.out _ _ HPU2.out.2.2 (fun _ => ?_)
            clear hK K
            try simp only [Act.put, List.setIfInBounds_toArray, List.set_cons_zero, List.set_cons_succ]
            refine wpAnyH_done (by kernel_rfl) ?_ _
            go_wp2_with fail
            go_meet
            case rel => exact ⟨_, _, _, _, rfl, rfl, HPU2.out.1, HPU2.out.2.1, HPU2.out.2.2⟩
        · skip
          go_simp
          refine hK.out _ _ (HS1.out.alloc HS1.out.size (.cells #[.int .i64 0, .int .i64 0, .slice none 0 0] 24)) (fun _ => ?_)
          clear hK K
          try simp only [Act.put, List.setIfInBounds_toArray, List.set_cons_zero, List.set_cons_succ]
          obtain ⟨V2, hV⟩ : ∃ V, V1.alloc (.cells #[.int .i64 0, .int .i64 0, .slice none 0 0] 24) = V := ⟨_, rfl⟩
          rw [hV]
          have HK1 := Lib.hid (show Below V1.heap.size V1 V2 by rw [← hV]; exact (Below.refl _ _).alloc (Nat.le_refl _) _)
          have HZ5 := Lib.hid (show V2.heap[V1.heap.size]? = some (.cells #[.int .i64 0, .int .i64 0, .slice none 0 0] 24) by rw [← hV]; exact World.alloc_heap_new _ _)
          have HL5 := Lib.hid (show V1.heap.size < V2.heap.size by rw [← hV, World.size_alloc]; omega)
          have HS2 := Lib.hid (Go.RowKit.Below.tr HS1.out HK1.out (Nat.le_refl _))
          clear hV
          refine wpAnyH_ready (rs := [1]) (by kernel_rfl) (by simp) ?_
          refine AllReadyH.cons (o := ⟨some 35, _, _, _, _, _⟩) rfl (fun K hK => ?_) AllReadyH.nil
          go_simp
          refine (HC1.out _ HS2.out).mono ?_
          rintro e V3 ⟨a5, rfl, ht, hb⟩
          have HK2 := Lib.hid hb
          have HS3 := Lib.hid (Go.RowKit.Below.tr HS2.out hb (Nat.le_refl _))
          have HT5 := Lib.hid ht
          clear hb ht
          dsimp only
          refine hK.out _ _ HS3.out (fun _ => ?_)
          clear hK K
          try simp only [Act.put, List.setIfInBounds_toArray, List.set_cons_zero, List.set_cons_succ]
          refine wpAnyH_ready (rs := [3]) (by kernel_rfl) (by simp) ?_
          refine AllReadyH.cons (o := ⟨some 37, _, _, _, _, _⟩) rfl (fun K hK => ?_) AllReadyH.nil
          go_simp
          refine (HC2.out _ HS3.out).mono ?_
          rintro e V4 ⟨a6, rfl, ht, hb⟩
          have HK3 := Lib.hid hb
          have HS4 := Lib.hid (Go.RowKit.Below.tr HS3.out hb (Nat.le_refl _))
          have HT6 := Lib.hid ht
          clear hb ht
          dsimp only
          refine hK.out _ _ HS4.out (fun _ => ?_)
          clear hK K
          try simp only [Act.put, List.setIfInBounds_toArray, List.set_cons_zero, List.set_cons_succ]
          have z5 := ((Go.RowKit.Below.tr HK2.out HK3.out (Nat.le_refl _)).block _ HL5.out).trans HZ5.out
          have z6 := ((Go.RowKit.Below.tr (Go.RowKit.Below.tr HK1.out HK2.out (Nat.le_refl _)) HK3.out (Nat.le_refl _)).block _ HL6.out).trans HZ6.out
          have hput := fun F hF => put_twoZ (F := F) (k := 8) (n := 0) (l := 1) (k' := 8) (n' := 0) (l' := 1) ⟨rfl, rfl, rfl⟩ ⟨rfl, rfl, rfl⟩ HR3.out HR4.out z5 z6 (ty_later HT5.out HK3.out) (ty_later HT6.out (Below.refl V4.heap.size V4)) HS4.out (Nat.le_trans HS0.out.size (by have := HK0.out.size; have := HK1.out.size; have := HK2.out.size; have := HK3.out.size; have := HL5.out; have := HL6.out; omega)) (Nat.le_trans HS0.out.size (by have := HK0.out.size; have := HK1.out.size; have := HK2.out.size; have := HK3.out.size; have := HL5.out; have := HL6.out; omega)) (by have := HK0.out.size; have := HK1.out.size; have := HK2.out.size; have := HK3.out.size; have := HL5.out; have := HL6.out; omega) hF
          have HPUT := Lib.hid hput
          clear hput
          obtain ⟨z50, z51, z52, f50, f51, f52⟩ := zero_three z5
          refine wpAnyH_ready (rs := [6]) (by kernel_rfl) (by simp) ?_
          refine AllReadyH.cons (o := ⟨none, _, _, _, _, _⟩) rfl (fun K hK => ?_) AllReadyH.nil
          go_simp
          refine hK.out _ _ (put_halfZ HS4.out (Nat.le_trans HS0.out.size (by have := HK0.out.size; have := HK1.out.size; have := HK2.out.size; have := HK3.out.size; have := HL5.out; have := HL6.out; omega))) (fun _ => ?_)
          clear hK K
          try simp only [Act.put, List.setIfInBounds_toArray, List.set_cons_zero, List.set_cons_succ]
          clear z50 z51 z52 f50 f51 f52
          have y6 := (set3_other (V := V4) (b := V1.heap.size) (v0 := .int .i64 8) (v1 := .int .i64 0) (v2 := .slice (some ⟨a5, 0, none⟩) 1 1) (k := V0.heap.size) (by have := HK0.out.size; have := HK1.out.size; have := HK2.out.size; have := HK3.out.size; have := HL5.out; have := HL6.out; omega)).trans z6
          obtain ⟨V5, hV5⟩ : ∃ V, ((V4.setCell ⟨V1.heap.size, 0, none⟩ (.int .i64 8)).setCell ⟨V1.heap.size, 1, none⟩ (.int .i64 0)).setCell ⟨V1.heap.size, 2, none⟩ (.slice (some ⟨a5, 0, none⟩) 1 1) = V := ⟨_, rfl⟩
          rw [hV5] at y6 ⊢
          have HPU2 := Lib.hid (HPUT.out _ (by rw [hV5]))
          obtain ⟨z60, z61, z62, f60, f61, f62⟩ := zero_three y6
          refine wpAnyH_ready (rs := [7]) (by kernel_rfl) (by simp) ?_
          refine AllReadyH.cons (o := ⟨none, _, _, _, _, _⟩) rfl (fun K hK => ?_) AllReadyH.nil
          go_simp
          refine hK.out _ _ HPU2.out.2.2 (fun _ => ?_)
          clear hK K
          try simp only [Act.put, List.setIfInBounds_toArray, List.set_cons_zero, List.set_cons_succ]
          refine wpAnyH_done (by kernel_rfl) ?_ _
          go_wp2_with fail
          go_meet
          case rel => exact ⟨_, _, _, _, rfl, rfl, HPU2.out.1, HPU2.out.2.1, HPU2.out.2.2⟩
    case rest =>
    as_aux_lemma =>
    obtain ⟨p9, p10, g9, g10, rfl, rfl, b5, b6, hb⟩ := hcut
    obtain ⟨w7, hw7⟩ : ∃ x, wc = x := ⟨_, rfl⟩
    rw [hw7] at b5 b6 hb ⊢
    have BT7 := Lib.hid (BT6.out.later hb); have BU7 := Lib.hid (BU6.out.later hb); have BP7 := Lib.hid (BP6.out.later hb); have BQ7 := Lib.hid (BQ6.out.later hb); have BF7 := Lib.hid (BF6.out.later hb); have BG7 := Lib.hid (BG6.out.later hb); have BC7 := Lib.hid (BC6.out.later hb); have BD7 := Lib.hid (BD6.out.later hb); have BL7 := Lib.hid b5; have BM7 := Lib.hid b6; have HB07 := Lib.hid (HB06.out.tr hb (Nat.le_refl _))
    clear b5 b6 hb HC1 HC2 HCELL hw7 BT6 BU6 BP6 BQ6 BF6 BG6 BC6 BD6 HB06 HR1 HR2 HR3 HR4 HR5 HR6 H7 H9
    have st : Tp.size t ≤ 10000 := by have := HSZ.out; omega
    have su : Tp.size u ≤ 10000 := by have := HSZ.out; omega
    have sp : Tp.size p ≤ 10000 := by have := HSZ.out; omega
    have sq : Tp.size q ≤ 10000 := by have := HSZ.out; omega
    have sf : ∀ k, Tp.size (.mk k 0 [t, u]) ≤ 10000 := fun k => two_sz (by have := HSZ.out; omega)
    have sg : ∀ k, Tp.size (.mk k 0 [p, q]) ≤ 10000 := fun k => two_sz (by have := HSZ.out; omega)
    have sl : Tp.size (.mk 8 0 [t]) ≤ 10000 := list_sz (by have := HSZ.out; omega)
    have sm : Tp.size (.mk 8 0 [p]) ≤ 10000 := list_sz (by have := HSZ.out; omega)
    have K1 := Lib.hid (fun x (h : Below w7.heap.size w7 x) => pos_any (w := x) (BF7.out.later h).says (BG7.out.later h).says (BF7.out.later h).ty (BG7.out.later h).ty (sf 9) (sg 9))
    have K2 := Lib.hid (fun x (h : Below w7.heap.size w7 x) => neg_any (w := x) (BF7.out.later h).says (BG7.out.later h).says (BF7.out.later h).ty (BG7.out.later h).ty (sf 9) (sg 9))
    have K3 := Lib.hid (fun x (h : Below w7.heap.size w7 x) => sub_any (w := x) (BF7.out.later h).says (BG7.out.later h).says (BF7.out.later h).ty (BG7.out.later h).ty (sf 9) (sg 9))
    have K4 := Lib.hid (fun x (h : Below w7.heap.size w7 x) => pos_any (w := x) (BC7.out.later h).says (BD7.out.later h).says (BC7.out.later h).ty (BD7.out.later h).ty (sf 7) (sg 7))
    have K5 := Lib.hid (fun x (h : Below w7.heap.size w7 x) => neg_any (w := x) (BL7.out.later h).says (BM7.out.later h).says (BL7.out.later h).ty (BM7.out.later h).ty sl sm)
    have K6 := Lib.hid (fun x (h : Below w7.heap.size w7 x) => sub_any (w := x) (BF7.out.later h).says (BD7.out.later h).says (BF7.out.later h).ty (BD7.out.later h).ty (sf 9) (sg 7))
    have J1 := Lib.hid (fun x (h : Below w7.heap.size w7 x) => neg_any (w := x) (BP7.out.later h).says (BT7.out.later h).says (BP7.out.later h).ty (BT7.out.later h).ty sp st)
    have J2 := Lib.hid (fun x (h : Below w7.heap.size w7 x) => pos_any (w := x) (BU7.out.later h).says (BQ7.out.later h).says (BU7.out.later h).ty (BQ7.out.later h).ty su sq)
    have J3 := Lib.hid (fun x (h : Below w7.heap.size w7 x) => pos_any (w := x) (BP7.out.later h).says (BT7.out.later h).says (BP7.out.later h).ty (BT7.out.later h).ty sp st)
    have J4 := Lib.hid (fun x (h : Below w7.heap.size w7 x) => neg_any (w := x) (BU7.out.later h).says (BQ7.out.later h).says (BU7.out.later h).ty (BQ7.out.later h).ty su sq)
    have J5 := Lib.hid (fun x (h : Below w7.heap.size w7 x) => sub_any (w := x) (BP7.out.later h).says (BT7.out.later h).says (BP7.out.later h).ty (BT7.out.later h).ty sp st)
    have J6 := Lib.hid (fun x (h : Below w7.heap.size w7 x) => sub_any (w := x) (BU7.out.later h).says (BQ7.out.later h).says (BU7.out.later h).ty (BQ7.out.later h).ty su sq)
    have J7 := Lib.hid (fun x (h : Below w7.heap.size w7 x) => pos_any (w := x) (BT7.out.later h).says (BP7.out.later h).says (BT7.out.later h).ty (BP7.out.later h).ty st sp)
    have J8 := Lib.hid (fun x (h : Below w7.heap.size w7 x) => neg_any (w := x) (BT7.out.later h).says (BP7.out.later h).says (BT7.out.later h).ty (BP7.out.later h).ty st sp)
    obtain ⟨q1, q2, q3, q4, q5, q6⟩ := Tp.sub_law_parts HRT.out HRU.out HRP.out HRQ.out
    rw [q1] at K1; rw [q2] at K2; rw [q3] at K3; rw [q4] at K4; rw [q5] at K5; rw [q6] at K6
    have hspt := Tp.sub_law_both HRP.out HRT.out
    obtain ⟨npt, hq⟩ : ∃ z, Tp.sb .n p t = z := ⟨_, rfl⟩
    rw [hq] at K1 J1 hspt
    clear hq
    obtain ⟨puq, hq⟩ : ∃ z, Tp.sb .p u q = z := ⟨_, rfl⟩
    rw [hq] at K1 K4 J2
    clear hq
    obtain ⟨ppt, hq⟩ : ∃ z, Tp.sb .p p t = z := ⟨_, rfl⟩
    rw [hq] at K2 J3 hspt
    clear hq
    obtain ⟨nuq, hq⟩ : ∃ z, Tp.sb .n u q = z := ⟨_, rfl⟩
    rw [hq] at K2 J4
    clear hq
    obtain ⟨spt, hq⟩ : ∃ z, Tp.sb .s p t = z := ⟨_, rfl⟩
    rw [hq] at K3 J5 hspt
    clear hq
    obtain ⟨suq, hq⟩ : ∃ z, Tp.sb .s u q = z := ⟨_, rfl⟩
    rw [hq] at K3 J6
    clear hq
    obtain ⟨ptp, hq⟩ : ∃ z, Tp.sb .p t p = z := ⟨_, rfl⟩
    rw [hq] at K4 J7
    clear hq
    obtain ⟨ntp, hq⟩ : ∃ z, Tp.sb .n t p = z := ⟨_, rfl⟩
    rw [hq] at K5 J8
    clear hq
    have HWAK := Lib.hid (fun x (_ : Below w7.heap.size w7 x) => wakes10_any x)
    have HCELL := Lib.hid (fun x (h : Below w7.heap.size w7 x) => (⟨(BT7.out.later h).cells, (BU7.out.later h).cells, (BP7.out.later h).cells, (BQ7.out.later h).cells, (BF7.out.later h).cells, (BG7.out.later h).cells, (BC7.out.later h).cells, (BD7.out.later h).cells, (BL7.out.later h).cells, (BM7.out.later h).cells⟩ : _ ∧ _ ∧ _ ∧ _ ∧ _ ∧ _ ∧ _ ∧ _ ∧ _ ∧ _))
    clear q1 q2 q3 q4 q5 q6 st su sp sq sf sg sl sm
    go_upto_region 6 with fail
    have HLE := Lib.hid (fun x (h : Below w7.heap.size w7 x) => h.size)
    have HBd := Lib.hid (Below.refl w7.heap.size w7).drew
    obtain ⟨⟨c0, c1, c2⟩, ⟨d0, d1, d2⟩, ⟨e0, e1, e2⟩, ⟨g0, g1, g2⟩, ⟨h0, h1, h2⟩, ⟨i0, i1, i2⟩, ⟨j0, j1, j2⟩, ⟨k0', k1', k2'⟩, ⟨l0, l1, l2⟩, ⟨m0', m1', m2'⟩⟩ := HCELL.out _ HBd.out
    as_aux_lemma =>
    try simp only [List.append_eq, List.cons_append, List.nil_append]
    refine wp_region_seq ((0, false) :: (0, false) :: (1, false) :: (1, false) :: (0, true) :: (0, true) :: (0, false) :: (0, false) :: (0, false) :: (0, true) :: (0, false) :: (0, false) :: (0, false) :: (0, false) :: (0, false) :: (1, false) :: (1, false) :: (0, true) :: (0, true) :: (0, false) :: (0, false) :: (0, false) :: (0, true) :: (0, false) :: (0, false) :: (0, false) :: (0, false) :: (0, false) :: (0, false) :: (1, false) :: (1, false) :: (0, true) :: (0, true) :: (0, false) :: (0, false) :: (0, false) :: (0, true) :: (0, false) :: (0, false) :: (0, false) :: (0, false) :: (0, false) :: (0, false) :: (1, false) :: (1, false) :: (0, true) :: (0, true) :: (0, false) :: (0, false) :: (0, false) :: (0, true) :: (0, false) :: (0, false) :: (0, false) :: (0, false) :: (0, false) :: (0, false) :: (1, false) :: (1, false) :: (0, true) :: (0, true) :: (0, false) :: (0, false) :: (0, false) :: (0, false) :: (0, false) :: (0, true) :: (0, false) :: (0, false) :: (0, false) :: (0, true) :: (0, false) :: (0, false) :: []) (by kernel_rfl) (by kernel_rfl) (by kernel_rfl) (fun _ _ _ d _ h => by cases d <;> exact h) ?_
    repeat
      first
      | (first | with_reducible refine sp0 (fun K hK => ?_) | with_reducible refine sp1 (fun K hK => ?_) | with_reducible refine sp2 (fun K hK => ?_) | with_reducible refine sp3 (fun K hK => ?_) | with_reducible refine sp4 (fun K hK => ?_)
         go_simp
         first
         | (with_reducible refine hK _ _ ?_; clear hK K)
         | (with_reducible apply Exists.intro
            refine ⟨fun x hx => ?_, hK _ _ ?_⟩
            first
              | (with_reducible exact rfl)
              | (have y0 := keepc hx h0; have y1 := keepc hx h1; have y2 := keepc hx h2; have y3 := keepc hx i0; have y4 := keepc hx i1; have y5 := keepc hx i2; have y6 := keepc hx e0; have y7 := keepc hx e1; have y8 := keepc hx e2; have y9 := keepc hx c0; have y10 := keepc hx c1; have y11 := keepc hx c2; go_simp; done)
              | (have y0 := keepc hx h0; have y1 := keepc hx h1; have y2 := keepc hx h2; have y3 := keepc hx i0; have y4 := keepc hx i1; have y5 := keepc hx i2; have y6 := keepc hx e0; have y7 := keepc hx e1; have y8 := keepc hx e2; have y9 := keepc hx c0; have y10 := keepc hx c1; have y11 := keepc hx c2; go_simp; with_reducible exact rfl)
            clear hK K))
      | (first | with_reducible refine sk0 ?_ (fun K hK => ?_) | with_reducible refine sk1 ?_ (fun K hK => ?_) | with_reducible refine sk2 ?_ (fun K hK => ?_) | with_reducible refine sk3 ?_ (fun K hK => ?_) | with_reducible refine sk4 ?_ (fun K hK => ?_)
         rfl
         go_simp
         with_reducible refine hK _ _ ?_
         clear hK K)
    cases npt
    all_goals
      (first | rw [Bool.false_and] at K1 | rw [Bool.true_and] at K1)
      as_aux_lemma =>
      (first | with_reducible refine sc0 (fun K hK => ?_) | with_reducible refine sc1 (fun K hK => ?_) | with_reducible refine sc2 (fun K hK => ?_) | with_reducible refine sc3 (fun K hK => ?_) | with_reducible refine sc4 (fun K hK => ?_))
      go_simp
      with_reducible refine (K1.out _ HBd.out).mono ?_
      clear c0 c1 c2 d0 d1 d2 e0 e1 e2 g0 g1 g2 h0 h1 h2 i0 i1 i2 j0 j1 j2 k0' k1' k2' l0 l1 l2 m0' m1' m2'
      rintro e xw ⟨rfl, hb9⟩
      refine ⟨hb9, hK _ _ ?_⟩
      clear hK K
      have HBd := Lib.hid (HBd.out.trans (hb9.mono (HLE.out _ HBd.out)))
      clear hb9
      obtain ⟨⟨c0, c1, c2⟩, ⟨d0, d1, d2⟩, ⟨e0, e1, e2⟩, ⟨g0, g1, g2⟩, ⟨h0, h1, h2⟩, ⟨i0, i1, i2⟩, ⟨j0, j1, j2⟩, ⟨k0', k1', k2'⟩, ⟨l0, l1, l2⟩, ⟨m0', m1', m2'⟩⟩ := HCELL.out _ HBd.out
      repeat
        first
        | (first | with_reducible refine sp0 (fun K hK => ?_) | with_reducible refine sp1 (fun K hK => ?_) | with_reducible refine sp2 (fun K hK => ?_) | with_reducible refine sp3 (fun K hK => ?_) | with_reducible refine sp4 (fun K hK => ?_)
           go_simp
           first
           | (with_reducible refine hK _ _ ?_; clear hK K)
           | (with_reducible apply Exists.intro
              refine ⟨fun x hx => ?_, hK _ _ ?_⟩
              first
                | (with_reducible exact rfl)
              clear hK K))
        | (first | with_reducible refine sk0 ?_ (fun K hK => ?_) | with_reducible refine sk1 ?_ (fun K hK => ?_) | with_reducible refine sk2 ?_ (fun K hK => ?_) | with_reducible refine sk3 ?_ (fun K hK => ?_) | with_reducible refine sk4 ?_ (fun K hK => ?_)
           rfl
           go_simp
           with_reducible refine hK _ _ ?_
           clear hK K)
      (first | with_reducible refine sc0 (fun K hK => ?_) | with_reducible refine sc1 (fun K hK => ?_) | with_reducible refine sc2 (fun K hK => ?_) | with_reducible refine sc3 (fun K hK => ?_) | with_reducible refine sc4 (fun K hK => ?_))
      go_simp
      with_reducible refine (J1.out _ HBd.out).mono ?_
      clear c0 c1 c2 d0 d1 d2 e0 e1 e2 g0 g1 g2 h0 h1 h2 i0 i1 i2 j0 j1 j2 k0' k1' k2' l0 l1 l2 m0' m1' m2'
      rintro e xw ⟨rfl, hb9⟩
      refine ⟨hb9, hK _ _ ?_⟩
      clear hK K
      have HBd := Lib.hid (HBd.out.trans (hb9.mono (HLE.out _ HBd.out)))
      clear hb9
      obtain ⟨⟨c0, c1, c2⟩, ⟨d0, d1, d2⟩, ⟨e0, e1, e2⟩, ⟨g0, g1, g2⟩, ⟨h0, h1, h2⟩, ⟨i0, i1, i2⟩, ⟨j0, j1, j2⟩, ⟨k0', k1', k2'⟩, ⟨l0, l1, l2⟩, ⟨m0', m1', m2'⟩⟩ := HCELL.out _ HBd.out
      repeat
        first
        | (first | with_reducible refine sp0 (fun K hK => ?_) | with_reducible refine sp1 (fun K hK => ?_) | with_reducible refine sp2 (fun K hK => ?_) | with_reducible refine sp3 (fun K hK => ?_) | with_reducible refine sp4 (fun K hK => ?_)
           go_simp
           first
           | (with_reducible refine hK _ _ ?_; clear hK K)
           | (with_reducible apply Exists.intro
              refine ⟨fun x hx => ?_, hK _ _ ?_⟩
              first
                | (with_reducible exact rfl)
                | (have y0 := keepc hx d0; have y1 := keepc hx d1; have y2 := keepc hx d2; have y3 := keepc hx g0; have y4 := keepc hx g1; have y5 := keepc hx g2; go_simp; done)
                | (have y0 := keepc hx d0; have y1 := keepc hx d1; have y2 := keepc hx d2; have y3 := keepc hx g0; have y4 := keepc hx g1; have y5 := keepc hx g2; go_simp; with_reducible exact rfl)
              clear hK K))
        | (first | with_reducible refine sk0 ?_ (fun K hK => ?_) | with_reducible refine sk1 ?_ (fun K hK => ?_) | with_reducible refine sk2 ?_ (fun K hK => ?_) | with_reducible refine sk3 ?_ (fun K hK => ?_) | with_reducible refine sk4 ?_ (fun K hK => ?_)
           rfl
           go_simp
           with_reducible refine hK _ _ ?_
           clear hK K)
      first
      | ((first | with_reducible refine sc0 (fun K hK => ?_) | with_reducible refine sc1 (fun K hK => ?_) | with_reducible refine sc2 (fun K hK => ?_) | with_reducible refine sc3 (fun K hK => ?_) | with_reducible refine sc4 (fun K hK => ?_)); go_simp; with_reducible refine (J2.out _ HBd.out).mono ?_; clear c0 c1 c2 d0 d1 d2 e0 e1 e2 g0 g1 g2 h0 h1 h2 i0 i1 i2 j0 j1 j2 k0' k1' k2' l0 l1 l2 m0' m1' m2'; rintro e xw ⟨rfl, hb9⟩; refine ⟨hb9, hK _ _ ?_⟩; clear hK K; have HBd := Lib.hid (HBd.out.trans (hb9.mono (HLE.out _ HBd.out))); clear hb9; obtain ⟨⟨c0, c1, c2⟩, ⟨d0, d1, d2⟩, ⟨e0, e1, e2⟩, ⟨g0, g1, g2⟩, ⟨h0, h1, h2⟩, ⟨i0, i1, i2⟩, ⟨j0, j1, j2⟩, ⟨k0', k1', k2'⟩, ⟨l0, l1, l2⟩, ⟨m0', m1', m2'⟩⟩ := HCELL.out _ HBd.out)
      | skip
      repeat
        first
        | (first | with_reducible refine sp0 (fun K hK => ?_) | with_reducible refine sp1 (fun K hK => ?_) | with_reducible refine sp2 (fun K hK => ?_) | with_reducible refine sp3 (fun K hK => ?_) | with_reducible refine sp4 (fun K hK => ?_)
           go_simp
           first
           | (with_reducible refine hK _ _ ?_; clear hK K)
           | (with_reducible apply Exists.intro
              refine ⟨fun x hx => ?_, hK _ _ ?_⟩
              first
                | (with_reducible exact rfl)
                | (have y0 := keepc hx h0; have y1 := keepc hx h1; have y2 := keepc hx h2; have y3 := keepc hx i0; have y4 := keepc hx i1; have y5 := keepc hx i2; have y6 := keepc hx e0; have y7 := keepc hx e1; have y8 := keepc hx e2; have y9 := keepc hx c0; have y10 := keepc hx c1; have y11 := keepc hx c2; go_simp; done)
                | (have y0 := keepc hx h0; have y1 := keepc hx h1; have y2 := keepc hx h2; have y3 := keepc hx i0; have y4 := keepc hx i1; have y5 := keepc hx i2; have y6 := keepc hx e0; have y7 := keepc hx e1; have y8 := keepc hx e2; have y9 := keepc hx c0; have y10 := keepc hx c1; have y11 := keepc hx c2; go_simp; with_reducible exact rfl)
              clear hK K))
        | (first | with_reducible refine sk0 ?_ (fun K hK => ?_) | with_reducible refine sk1 ?_ (fun K hK => ?_) | with_reducible refine sk2 ?_ (fun K hK => ?_) | with_reducible refine sk3 ?_ (fun K hK => ?_) | with_reducible refine sk4 ?_ (fun K hK => ?_)
           rfl
           go_simp
           with_reducible refine hK _ _ ?_
           clear hK K)
      cases ppt
      all_goals
        (first | rw [Bool.false_and] at K2 | rw [Bool.true_and] at K2)
        as_aux_lemma =>
        (first | with_reducible refine sc0 (fun K hK => ?_) | with_reducible refine sc1 (fun K hK => ?_) | with_reducible refine sc2 (fun K hK => ?_) | with_reducible refine sc3 (fun K hK => ?_) | with_reducible refine sc4 (fun K hK => ?_))
        go_simp
        with_reducible refine (K2.out _ HBd.out).mono ?_
        clear c0 c1 c2 d0 d1 d2 e0 e1 e2 g0 g1 g2 h0 h1 h2 i0 i1 i2 j0 j1 j2 k0' k1' k2' l0 l1 l2 m0' m1' m2'
        rintro e xw ⟨rfl, hb9⟩
        refine ⟨hb9, hK _ _ ?_⟩
        clear hK K
        have HBd := Lib.hid (HBd.out.trans (hb9.mono (HLE.out _ HBd.out)))
        clear hb9
        obtain ⟨⟨c0, c1, c2⟩, ⟨d0, d1, d2⟩, ⟨e0, e1, e2⟩, ⟨g0, g1, g2⟩, ⟨h0, h1, h2⟩, ⟨i0, i1, i2⟩, ⟨j0, j1, j2⟩, ⟨k0', k1', k2'⟩, ⟨l0, l1, l2⟩, ⟨m0', m1', m2'⟩⟩ := HCELL.out _ HBd.out
        repeat
          first
          | (first | with_reducible refine sp0 (fun K hK => ?_) | with_reducible refine sp1 (fun K hK => ?_) | with_reducible refine sp2 (fun K hK => ?_) | with_reducible refine sp3 (fun K hK => ?_) | with_reducible refine sp4 (fun K hK => ?_)
             go_simp
             first
             | (with_reducible refine hK _ _ ?_; clear hK K)
             | (with_reducible apply Exists.intro
                refine ⟨fun x hx => ?_, hK _ _ ?_⟩
                first
                  | (with_reducible exact rfl)
                clear hK K))
          | (first | with_reducible refine sk0 ?_ (fun K hK => ?_) | with_reducible refine sk1 ?_ (fun K hK => ?_) | with_reducible refine sk2 ?_ (fun K hK => ?_) | with_reducible refine sk3 ?_ (fun K hK => ?_) | with_reducible refine sk4 ?_ (fun K hK => ?_)
             rfl
             go_simp
             with_reducible refine hK _ _ ?_
             clear hK K)
        (first | with_reducible refine sc0 (fun K hK => ?_) | with_reducible refine sc1 (fun K hK => ?_) | with_reducible refine sc2 (fun K hK => ?_) | with_reducible refine sc3 (fun K hK => ?_) | with_reducible refine sc4 (fun K hK => ?_))
        go_simp
        with_reducible refine (J3.out _ HBd.out).mono ?_
        clear c0 c1 c2 d0 d1 d2 e0 e1 e2 g0 g1 g2 h0 h1 h2 i0 i1 i2 j0 j1 j2 k0' k1' k2' l0 l1 l2 m0' m1' m2'
        rintro e xw ⟨rfl, hb9⟩
        refine ⟨hb9, hK _ _ ?_⟩
        clear hK K
        have HBd := Lib.hid (HBd.out.trans (hb9.mono (HLE.out _ HBd.out)))
        clear hb9
        obtain ⟨⟨c0, c1, c2⟩, ⟨d0, d1, d2⟩, ⟨e0, e1, e2⟩, ⟨g0, g1, g2⟩, ⟨h0, h1, h2⟩, ⟨i0, i1, i2⟩, ⟨j0, j1, j2⟩, ⟨k0', k1', k2'⟩, ⟨l0, l1, l2⟩, ⟨m0', m1', m2'⟩⟩ := HCELL.out _ HBd.out
        repeat
          first
          | (first | with_reducible refine sp0 (fun K hK => ?_) | with_reducible refine sp1 (fun K hK => ?_) | with_reducible refine sp2 (fun K hK => ?_) | with_reducible refine sp3 (fun K hK => ?_) | with_reducible refine sp4 (fun K hK => ?_)
             go_simp
             first
             | (with_reducible refine hK _ _ ?_; clear hK K)
             | (with_reducible apply Exists.intro
                refine ⟨fun x hx => ?_, hK _ _ ?_⟩
                first
                  | (with_reducible exact rfl)
                  | (have y0 := keepc hx d0; have y1 := keepc hx d1; have y2 := keepc hx d2; have y3 := keepc hx g0; have y4 := keepc hx g1; have y5 := keepc hx g2; go_simp; done)
                  | (have y0 := keepc hx d0; have y1 := keepc hx d1; have y2 := keepc hx d2; have y3 := keepc hx g0; have y4 := keepc hx g1; have y5 := keepc hx g2; go_simp; with_reducible exact rfl)
                clear hK K))
          | (first | with_reducible refine sk0 ?_ (fun K hK => ?_) | with_reducible refine sk1 ?_ (fun K hK => ?_) | with_reducible refine sk2 ?_ (fun K hK => ?_) | with_reducible refine sk3 ?_ (fun K hK => ?_) | with_reducible refine sk4 ?_ (fun K hK => ?_)
             rfl
             go_simp
             with_reducible refine hK _ _ ?_
             clear hK K)
        first
        | ((first | with_reducible refine sc0 (fun K hK => ?_) | with_reducible refine sc1 (fun K hK => ?_) | with_reducible refine sc2 (fun K hK => ?_) | with_reducible refine sc3 (fun K hK => ?_) | with_reducible refine sc4 (fun K hK => ?_)); go_simp; with_reducible refine (J4.out _ HBd.out).mono ?_; clear c0 c1 c2 d0 d1 d2 e0 e1 e2 g0 g1 g2 h0 h1 h2 i0 i1 i2 j0 j1 j2 k0' k1' k2' l0 l1 l2 m0' m1' m2'; rintro e xw ⟨rfl, hb9⟩; refine ⟨hb9, hK _ _ ?_⟩; clear hK K; have HBd := Lib.hid (HBd.out.trans (hb9.mono (HLE.out _ HBd.out))); clear hb9; obtain ⟨⟨c0, c1, c2⟩, ⟨d0, d1, d2⟩, ⟨e0, e1, e2⟩, ⟨g0, g1, g2⟩, ⟨h0, h1, h2⟩, ⟨i0, i1, i2⟩, ⟨j0, j1, j2⟩, ⟨k0', k1', k2'⟩, ⟨l0, l1, l2⟩, ⟨m0', m1', m2'⟩⟩ := HCELL.out _ HBd.out)
        | skip
        repeat
          first
          | (first | with_reducible refine sp0 (fun K hK => ?_) | with_reducible refine sp1 (fun K hK => ?_) | with_reducible refine sp2 (fun K hK => ?_) | with_reducible refine sp3 (fun K hK => ?_) | with_reducible refine sp4 (fun K hK => ?_)
             go_simp
             first
             | (with_reducible refine hK _ _ ?_; clear hK K)
             | (with_reducible apply Exists.intro
                refine ⟨fun x hx => ?_, hK _ _ ?_⟩
                first
                  | (with_reducible exact rfl)
                  | (have y0 := keepc hx h0; have y1 := keepc hx h1; have y2 := keepc hx h2; have y3 := keepc hx i0; have y4 := keepc hx i1; have y5 := keepc hx i2; have y6 := keepc hx e0; have y7 := keepc hx e1; have y8 := keepc hx e2; have y9 := keepc hx c0; have y10 := keepc hx c1; have y11 := keepc hx c2; go_simp; done)
                  | (have y0 := keepc hx h0; have y1 := keepc hx h1; have y2 := keepc hx h2; have y3 := keepc hx i0; have y4 := keepc hx i1; have y5 := keepc hx i2; have y6 := keepc hx e0; have y7 := keepc hx e1; have y8 := keepc hx e2; have y9 := keepc hx c0; have y10 := keepc hx c1; have y11 := keepc hx c2; go_simp; with_reducible exact rfl)
                clear hK K))
          | (first | with_reducible refine sk0 ?_ (fun K hK => ?_) | with_reducible refine sk1 ?_ (fun K hK => ?_) | with_reducible refine sk2 ?_ (fun K hK => ?_) | with_reducible refine sk3 ?_ (fun K hK => ?_) | with_reducible refine sk4 ?_ (fun K hK => ?_)
             rfl
             go_simp
             with_reducible refine hK _ _ ?_
             clear hK K)
        cases spt
        all_goals try (exact absurd hspt (by decide))
        all_goals
          (first | rw [Bool.false_and] at K3 | rw [Bool.true_and] at K3)
          clear hspt
          as_aux_lemma =>
          (first | with_reducible refine sc0 (fun K hK => ?_) | with_reducible refine sc1 (fun K hK => ?_) | with_reducible refine sc2 (fun K hK => ?_) | with_reducible refine sc3 (fun K hK => ?_) | with_reducible refine sc4 (fun K hK => ?_))
          go_simp
          with_reducible refine (K3.out _ HBd.out).mono ?_
          clear c0 c1 c2 d0 d1 d2 e0 e1 e2 g0 g1 g2 h0 h1 h2 i0 i1 i2 j0 j1 j2 k0' k1' k2' l0 l1 l2 m0' m1' m2'
          rintro e xw ⟨rfl, hb9⟩
          refine ⟨hb9, hK _ _ ?_⟩
          clear hK K
          have HBd := Lib.hid (HBd.out.trans (hb9.mono (HLE.out _ HBd.out)))
          clear hb9
          obtain ⟨⟨c0, c1, c2⟩, ⟨d0, d1, d2⟩, ⟨e0, e1, e2⟩, ⟨g0, g1, g2⟩, ⟨h0, h1, h2⟩, ⟨i0, i1, i2⟩, ⟨j0, j1, j2⟩, ⟨k0', k1', k2'⟩, ⟨l0, l1, l2⟩, ⟨m0', m1', m2'⟩⟩ := HCELL.out _ HBd.out
          repeat
            first
            | (first | with_reducible refine sp0 (fun K hK => ?_) | with_reducible refine sp1 (fun K hK => ?_) | with_reducible refine sp2 (fun K hK => ?_) | with_reducible refine sp3 (fun K hK => ?_) | with_reducible refine sp4 (fun K hK => ?_)
               go_simp
               first
               | (with_reducible refine hK _ _ ?_; clear hK K)
               | (with_reducible apply Exists.intro
                  refine ⟨fun x hx => ?_, hK _ _ ?_⟩
                  first
                    | (with_reducible exact rfl)
                  clear hK K))
            | (first | with_reducible refine sk0 ?_ (fun K hK => ?_) | with_reducible refine sk1 ?_ (fun K hK => ?_) | with_reducible refine sk2 ?_ (fun K hK => ?_) | with_reducible refine sk3 ?_ (fun K hK => ?_) | with_reducible refine sk4 ?_ (fun K hK => ?_)
               rfl
               go_simp
               with_reducible refine hK _ _ ?_
               clear hK K)
          (first | with_reducible refine sc0 (fun K hK => ?_) | with_reducible refine sc1 (fun K hK => ?_) | with_reducible refine sc2 (fun K hK => ?_) | with_reducible refine sc3 (fun K hK => ?_) | with_reducible refine sc4 (fun K hK => ?_))
          go_simp
          with_reducible refine (J5.out _ HBd.out).mono ?_
          clear c0 c1 c2 d0 d1 d2 e0 e1 e2 g0 g1 g2 h0 h1 h2 i0 i1 i2 j0 j1 j2 k0' k1' k2' l0 l1 l2 m0' m1' m2'
          rintro e xw ⟨rfl, hb9⟩
          refine ⟨hb9, hK _ _ ?_⟩
          clear hK K
          have HBd := Lib.hid (HBd.out.trans (hb9.mono (HLE.out _ HBd.out)))
          clear hb9
          obtain ⟨⟨c0, c1, c2⟩, ⟨d0, d1, d2⟩, ⟨e0, e1, e2⟩, ⟨g0, g1, g2⟩, ⟨h0, h1, h2⟩, ⟨i0, i1, i2⟩, ⟨j0, j1, j2⟩, ⟨k0', k1', k2'⟩, ⟨l0, l1, l2⟩, ⟨m0', m1', m2'⟩⟩ := HCELL.out _ HBd.out
          repeat
            first
            | (first | with_reducible refine sp0 (fun K hK => ?_) | with_reducible refine sp1 (fun K hK => ?_) | with_reducible refine sp2 (fun K hK => ?_) | with_reducible refine sp3 (fun K hK => ?_) | with_reducible refine sp4 (fun K hK => ?_)
               go_simp
               first
               | (with_reducible refine hK _ _ ?_; clear hK K)
               | (with_reducible apply Exists.intro
                  refine ⟨fun x hx => ?_, hK _ _ ?_⟩
                  first
                    | (with_reducible exact rfl)
                    | (have y0 := keepc hx d0; have y1 := keepc hx d1; have y2 := keepc hx d2; have y3 := keepc hx g0; have y4 := keepc hx g1; have y5 := keepc hx g2; go_simp; done)
                    | (have y0 := keepc hx d0; have y1 := keepc hx d1; have y2 := keepc hx d2; have y3 := keepc hx g0; have y4 := keepc hx g1; have y5 := keepc hx g2; go_simp; with_reducible exact rfl)
                  clear hK K))
            | (first | with_reducible refine sk0 ?_ (fun K hK => ?_) | with_reducible refine sk1 ?_ (fun K hK => ?_) | with_reducible refine sk2 ?_ (fun K hK => ?_) | with_reducible refine sk3 ?_ (fun K hK => ?_) | with_reducible refine sk4 ?_ (fun K hK => ?_)
               rfl
               go_simp
               with_reducible refine hK _ _ ?_
               clear hK K)
          first
          | ((first | with_reducible refine sc0 (fun K hK => ?_) | with_reducible refine sc1 (fun K hK => ?_) | with_reducible refine sc2 (fun K hK => ?_) | with_reducible refine sc3 (fun K hK => ?_) | with_reducible refine sc4 (fun K hK => ?_)); go_simp; with_reducible refine (J6.out _ HBd.out).mono ?_; clear c0 c1 c2 d0 d1 d2 e0 e1 e2 g0 g1 g2 h0 h1 h2 i0 i1 i2 j0 j1 j2 k0' k1' k2' l0 l1 l2 m0' m1' m2'; rintro e xw ⟨rfl, hb9⟩; refine ⟨hb9, hK _ _ ?_⟩; clear hK K; have HBd := Lib.hid (HBd.out.trans (hb9.mono (HLE.out _ HBd.out))); clear hb9; obtain ⟨⟨c0, c1, c2⟩, ⟨d0, d1, d2⟩, ⟨e0, e1, e2⟩, ⟨g0, g1, g2⟩, ⟨h0, h1, h2⟩, ⟨i0, i1, i2⟩, ⟨j0, j1, j2⟩, ⟨k0', k1', k2'⟩, ⟨l0, l1, l2⟩, ⟨m0', m1', m2'⟩⟩ := HCELL.out _ HBd.out)
          | skip
          repeat
            first
            | (first | with_reducible refine sp0 (fun K hK => ?_) | with_reducible refine sp1 (fun K hK => ?_) | with_reducible refine sp2 (fun K hK => ?_) | with_reducible refine sp3 (fun K hK => ?_) | with_reducible refine sp4 (fun K hK => ?_)
               go_simp
               first
               | (with_reducible refine hK _ _ ?_; clear hK K)
               | (with_reducible apply Exists.intro
                  refine ⟨fun x hx => ?_, hK _ _ ?_⟩
                  first
                    | (with_reducible exact rfl)
                    | (have y0 := keepc hx j0; have y1 := keepc hx j1; have y2 := keepc hx j2; have y3 := keepc hx k0'; have y4 := keepc hx k1'; have y5 := keepc hx k2'; have y6 := keepc hx c0; have y7 := keepc hx c1; have y8 := keepc hx c2; have y9 := keepc hx e0; have y10 := keepc hx e1; have y11 := keepc hx e2; go_simp; done)
                    | (have y0 := keepc hx j0; have y1 := keepc hx j1; have y2 := keepc hx j2; have y3 := keepc hx k0'; have y4 := keepc hx k1'; have y5 := keepc hx k2'; have y6 := keepc hx c0; have y7 := keepc hx c1; have y8 := keepc hx c2; have y9 := keepc hx e0; have y10 := keepc hx e1; have y11 := keepc hx e2; go_simp; with_reducible exact rfl)
                  clear hK K))
            | (first | with_reducible refine sk0 ?_ (fun K hK => ?_) | with_reducible refine sk1 ?_ (fun K hK => ?_) | with_reducible refine sk2 ?_ (fun K hK => ?_) | with_reducible refine sk3 ?_ (fun K hK => ?_) | with_reducible refine sk4 ?_ (fun K hK => ?_)
               rfl
               go_simp
               with_reducible refine hK _ _ ?_
               clear hK K)
          cases ptp
          all_goals
            (first | rw [Bool.false_and] at K4 | rw [Bool.true_and] at K4)
            as_aux_lemma =>
            (first | with_reducible refine sc0 (fun K hK => ?_) | with_reducible refine sc1 (fun K hK => ?_) | with_reducible refine sc2 (fun K hK => ?_) | with_reducible refine sc3 (fun K hK => ?_) | with_reducible refine sc4 (fun K hK => ?_))
            go_simp
            with_reducible refine (K4.out _ HBd.out).mono ?_
            clear c0 c1 c2 d0 d1 d2 e0 e1 e2 g0 g1 g2 h0 h1 h2 i0 i1 i2 j0 j1 j2 k0' k1' k2' l0 l1 l2 m0' m1' m2'
            rintro e xw ⟨rfl, hb9⟩
            refine ⟨hb9, hK _ _ ?_⟩
            clear hK K
            have HBd := Lib.hid (HBd.out.trans (hb9.mono (HLE.out _ HBd.out)))
            clear hb9
            obtain ⟨⟨c0, c1, c2⟩, ⟨d0, d1, d2⟩, ⟨e0, e1, e2⟩, ⟨g0, g1, g2⟩, ⟨h0, h1, h2⟩, ⟨i0, i1, i2⟩, ⟨j0, j1, j2⟩, ⟨k0', k1', k2'⟩, ⟨l0, l1, l2⟩, ⟨m0', m1', m2'⟩⟩ := HCELL.out _ HBd.out
            repeat
              first
              | (first | with_reducible refine sp0 (fun K hK => ?_) | with_reducible refine sp1 (fun K hK => ?_) | with_reducible refine sp2 (fun K hK => ?_) | with_reducible refine sp3 (fun K hK => ?_) | with_reducible refine sp4 (fun K hK => ?_)
                 go_simp
                 first
                 | (with_reducible refine hK _ _ ?_; clear hK K)
                 | (with_reducible apply Exists.intro
                    refine ⟨fun x hx => ?_, hK _ _ ?_⟩
                    first
                      | (with_reducible exact rfl)
                    clear hK K))
              | (first | with_reducible refine sk0 ?_ (fun K hK => ?_) | with_reducible refine sk1 ?_ (fun K hK => ?_) | with_reducible refine sk2 ?_ (fun K hK => ?_) | with_reducible refine sk3 ?_ (fun K hK => ?_) | with_reducible refine sk4 ?_ (fun K hK => ?_)
                 rfl
                 go_simp
                 with_reducible refine hK _ _ ?_
                 clear hK K)
            (first | with_reducible refine sc0 (fun K hK => ?_) | with_reducible refine sc1 (fun K hK => ?_) | with_reducible refine sc2 (fun K hK => ?_) | with_reducible refine sc3 (fun K hK => ?_) | with_reducible refine sc4 (fun K hK => ?_))
            go_simp
            with_reducible refine (J7.out _ HBd.out).mono ?_
            clear c0 c1 c2 d0 d1 d2 e0 e1 e2 g0 g1 g2 h0 h1 h2 i0 i1 i2 j0 j1 j2 k0' k1' k2' l0 l1 l2 m0' m1' m2'
            rintro e xw ⟨rfl, hb9⟩
            refine ⟨hb9, hK _ _ ?_⟩
            clear hK K
            have HBd := Lib.hid (HBd.out.trans (hb9.mono (HLE.out _ HBd.out)))
            clear hb9
            obtain ⟨⟨c0, c1, c2⟩, ⟨d0, d1, d2⟩, ⟨e0, e1, e2⟩, ⟨g0, g1, g2⟩, ⟨h0, h1, h2⟩, ⟨i0, i1, i2⟩, ⟨j0, j1, j2⟩, ⟨k0', k1', k2'⟩, ⟨l0, l1, l2⟩, ⟨m0', m1', m2'⟩⟩ := HCELL.out _ HBd.out
            repeat
              first
              | (first | with_reducible refine sp0 (fun K hK => ?_) | with_reducible refine sp1 (fun K hK => ?_) | with_reducible refine sp2 (fun K hK => ?_) | with_reducible refine sp3 (fun K hK => ?_) | with_reducible refine sp4 (fun K hK => ?_)
                 go_simp
                 first
                 | (with_reducible refine hK _ _ ?_; clear hK K)
                 | (with_reducible apply Exists.intro
                    refine ⟨fun x hx => ?_, hK _ _ ?_⟩
                    first
                      | (with_reducible exact rfl)
                      | (have y0 := keepc hx d0; have y1 := keepc hx d1; have y2 := keepc hx d2; have y3 := keepc hx g0; have y4 := keepc hx g1; have y5 := keepc hx g2; go_simp; done)
                      | (have y0 := keepc hx d0; have y1 := keepc hx d1; have y2 := keepc hx d2; have y3 := keepc hx g0; have y4 := keepc hx g1; have y5 := keepc hx g2; go_simp; with_reducible exact rfl)
                    clear hK K))
              | (first | with_reducible refine sk0 ?_ (fun K hK => ?_) | with_reducible refine sk1 ?_ (fun K hK => ?_) | with_reducible refine sk2 ?_ (fun K hK => ?_) | with_reducible refine sk3 ?_ (fun K hK => ?_) | with_reducible refine sk4 ?_ (fun K hK => ?_)
                 rfl
                 go_simp
                 with_reducible refine hK _ _ ?_
                 clear hK K)
            first
            | ((first | with_reducible refine sc0 (fun K hK => ?_) | with_reducible refine sc1 (fun K hK => ?_) | with_reducible refine sc2 (fun K hK => ?_) | with_reducible refine sc3 (fun K hK => ?_) | with_reducible refine sc4 (fun K hK => ?_)); go_simp; with_reducible refine (J2.out _ HBd.out).mono ?_; clear c0 c1 c2 d0 d1 d2 e0 e1 e2 g0 g1 g2 h0 h1 h2 i0 i1 i2 j0 j1 j2 k0' k1' k2' l0 l1 l2 m0' m1' m2'; rintro e xw ⟨rfl, hb9⟩; refine ⟨hb9, hK _ _ ?_⟩; clear hK K; have HBd := Lib.hid (HBd.out.trans (hb9.mono (HLE.out _ HBd.out))); clear hb9; obtain ⟨⟨c0, c1, c2⟩, ⟨d0, d1, d2⟩, ⟨e0, e1, e2⟩, ⟨g0, g1, g2⟩, ⟨h0, h1, h2⟩, ⟨i0, i1, i2⟩, ⟨j0, j1, j2⟩, ⟨k0', k1', k2'⟩, ⟨l0, l1, l2⟩, ⟨m0', m1', m2'⟩⟩ := HCELL.out _ HBd.out)
            | skip
            repeat
              first
              | (first | with_reducible refine sp0 (fun K hK => ?_) | with_reducible refine sp1 (fun K hK => ?_) | with_reducible refine sp2 (fun K hK => ?_) | with_reducible refine sp3 (fun K hK => ?_) | with_reducible refine sp4 (fun K hK => ?_)
                 go_simp
                 first
                 | (with_reducible refine hK _ _ ?_; clear hK K)
                 | (with_reducible apply Exists.intro
                    refine ⟨fun x hx => ?_, hK _ _ ?_⟩
                    first
                      | (with_reducible exact rfl)
                      | (have y0 := keepc hx l0; have y1 := keepc hx l1; have y2 := keepc hx l2; have y3 := keepc hx m0'; have y4 := keepc hx m1'; have y5 := keepc hx m2'; have y6 := keepc hx c0; have y7 := keepc hx c1; have y8 := keepc hx c2; have y9 := keepc hx e0; have y10 := keepc hx e1; have y11 := keepc hx e2; go_simp; done)
                      | (have y0 := keepc hx l0; have y1 := keepc hx l1; have y2 := keepc hx l2; have y3 := keepc hx m0'; have y4 := keepc hx m1'; have y5 := keepc hx m2'; have y6 := keepc hx c0; have y7 := keepc hx c1; have y8 := keepc hx c2; have y9 := keepc hx e0; have y10 := keepc hx e1; have y11 := keepc hx e2; go_simp; with_reducible exact rfl)
                    clear hK K))
              | (first | with_reducible refine sk0 ?_ (fun K hK => ?_) | with_reducible refine sk1 ?_ (fun K hK => ?_) | with_reducible refine sk2 ?_ (fun K hK => ?_) | with_reducible refine sk3 ?_ (fun K hK => ?_) | with_reducible refine sk4 ?_ (fun K hK => ?_)
                 rfl
                 go_simp
                 with_reducible refine hK _ _ ?_
                 clear hK K)
            (first | with_reducible refine sc0 (fun K hK => ?_) | with_reducible refine sc1 (fun K hK => ?_) | with_reducible refine sc2 (fun K hK => ?_) | with_reducible refine sc3 (fun K hK => ?_) | with_reducible refine sc4 (fun K hK => ?_))
            go_simp
            with_reducible refine (K5.out _ HBd.out).mono ?_
            clear c0 c1 c2 d0 d1 d2 e0 e1 e2 g0 g1 g2 h0 h1 h2 i0 i1 i2 j0 j1 j2 k0' k1' k2' l0 l1 l2 m0' m1' m2'
            rintro e xw ⟨rfl, hb9⟩
            refine ⟨hb9, hK _ _ ?_⟩
            clear hK K
            have HBd := Lib.hid (HBd.out.trans (hb9.mono (HLE.out _ HBd.out)))
            clear hb9
            obtain ⟨⟨c0, c1, c2⟩, ⟨d0, d1, d2⟩, ⟨e0, e1, e2⟩, ⟨g0, g1, g2⟩, ⟨h0, h1, h2⟩, ⟨i0, i1, i2⟩, ⟨j0, j1, j2⟩, ⟨k0', k1', k2'⟩, ⟨l0, l1, l2⟩, ⟨m0', m1', m2'⟩⟩ := HCELL.out _ HBd.out
            repeat
              first
              | (first | with_reducible refine sp0 (fun K hK => ?_) | with_reducible refine sp1 (fun K hK => ?_) | with_reducible refine sp2 (fun K hK => ?_) | with_reducible refine sp3 (fun K hK => ?_) | with_reducible refine sp4 (fun K hK => ?_)
                 go_simp
                 first
                 | (with_reducible refine hK _ _ ?_; clear hK K)
                 | (with_reducible apply Exists.intro
                    refine ⟨fun x hx => ?_, hK _ _ ?_⟩
                    first
                      | (with_reducible exact rfl)
                    clear hK K))
              | (first | with_reducible refine sk0 ?_ (fun K hK => ?_) | with_reducible refine sk1 ?_ (fun K hK => ?_) | with_reducible refine sk2 ?_ (fun K hK => ?_) | with_reducible refine sk3 ?_ (fun K hK => ?_) | with_reducible refine sk4 ?_ (fun K hK => ?_)
                 rfl
                 go_simp
                 with_reducible refine hK _ _ ?_
                 clear hK K)
            (first | with_reducible refine sc0 (fun K hK => ?_) | with_reducible refine sc1 (fun K hK => ?_) | with_reducible refine sc2 (fun K hK => ?_) | with_reducible refine sc3 (fun K hK => ?_) | with_reducible refine sc4 (fun K hK => ?_))
            go_simp
            with_reducible refine (J8.out _ HBd.out).mono ?_
            clear c0 c1 c2 d0 d1 d2 e0 e1 e2 g0 g1 g2 h0 h1 h2 i0 i1 i2 j0 j1 j2 k0' k1' k2' l0 l1 l2 m0' m1' m2'
            rintro e xw ⟨rfl, hb9⟩
            refine ⟨hb9, hK _ _ ?_⟩
            clear hK K
            have HBd := Lib.hid (HBd.out.trans (hb9.mono (HLE.out _ HBd.out)))
            clear hb9
            obtain ⟨⟨c0, c1, c2⟩, ⟨d0, d1, d2⟩, ⟨e0, e1, e2⟩, ⟨g0, g1, g2⟩, ⟨h0, h1, h2⟩, ⟨i0, i1, i2⟩, ⟨j0, j1, j2⟩, ⟨k0', k1', k2'⟩, ⟨l0, l1, l2⟩, ⟨m0', m1', m2'⟩⟩ := HCELL.out _ HBd.out
            repeat
              first
              | (first | with_reducible refine sp0 (fun K hK => ?_) | with_reducible refine sp1 (fun K hK => ?_) | with_reducible refine sp2 (fun K hK => ?_) | with_reducible refine sp3 (fun K hK => ?_) | with_reducible refine sp4 (fun K hK => ?_)
                 go_simp
                 first
                 | (with_reducible refine hK _ _ ?_; clear hK K)
                 | (with_reducible apply Exists.intro
                    refine ⟨fun x hx => ?_, hK _ _ ?_⟩
                    first
                      | (with_reducible exact rfl)
                      | (have y0 := keepc hx h0; have y1 := keepc hx h1; have y2 := keepc hx h2; have y3 := keepc hx k0'; have y4 := keepc hx k1'; have y5 := keepc hx k2'; go_simp; done)
                      | (have y0 := keepc hx h0; have y1 := keepc hx h1; have y2 := keepc hx h2; have y3 := keepc hx k0'; have y4 := keepc hx k1'; have y5 := keepc hx k2'; go_simp; with_reducible exact rfl)
                    clear hK K))
              | (first | with_reducible refine sk0 ?_ (fun K hK => ?_) | with_reducible refine sk1 ?_ (fun K hK => ?_) | with_reducible refine sk2 ?_ (fun K hK => ?_) | with_reducible refine sk3 ?_ (fun K hK => ?_) | with_reducible refine sk4 ?_ (fun K hK => ?_)
                 rfl
                 go_simp
                 with_reducible refine hK _ _ ?_
                 clear hK K)
            (first | with_reducible refine sc0 (fun K hK => ?_) | with_reducible refine sc1 (fun K hK => ?_) | with_reducible refine sc2 (fun K hK => ?_) | with_reducible refine sc3 (fun K hK => ?_) | with_reducible refine sc4 (fun K hK => ?_))
            go_simp
            with_reducible refine (K6.out _ HBd.out).mono ?_
            clear c0 c1 c2 d0 d1 d2 e0 e1 e2 g0 g1 g2 h0 h1 h2 i0 i1 i2 j0 j1 j2 k0' k1' k2' l0 l1 l2 m0' m1' m2'
            rintro e xw ⟨rfl, hb9⟩
            refine ⟨hb9, hK _ _ ?_⟩
            clear hK K
            have HBd := Lib.hid (HBd.out.trans (hb9.mono (HLE.out _ HBd.out)))
            clear hb9
            obtain ⟨⟨c0, c1, c2⟩, ⟨d0, d1, d2⟩, ⟨e0, e1, e2⟩, ⟨g0, g1, g2⟩, ⟨h0, h1, h2⟩, ⟨i0, i1, i2⟩, ⟨j0, j1, j2⟩, ⟨k0', k1', k2'⟩, ⟨l0, l1, l2⟩, ⟨m0', m1', m2'⟩⟩ := HCELL.out _ HBd.out
            repeat
              first
              | (first | with_reducible refine sp0 (fun K hK => ?_) | with_reducible refine sp1 (fun K hK => ?_) | with_reducible refine sp2 (fun K hK => ?_) | with_reducible refine sp3 (fun K hK => ?_) | with_reducible refine sp4 (fun K hK => ?_)
                 go_simp
                 first
                 | (with_reducible refine hK _ _ ?_; clear hK K)
                 | (with_reducible apply Exists.intro
                    refine ⟨fun x hx => ?_, hK _ _ ?_⟩
                    first
                      | (with_reducible exact rfl)
                    clear hK K))
              | (first | with_reducible refine sk0 ?_ (fun K hK => ?_) | with_reducible refine sk1 ?_ (fun K hK => ?_) | with_reducible refine sk2 ?_ (fun K hK => ?_) | with_reducible refine sk3 ?_ (fun K hK => ?_) | with_reducible refine sk4 ?_ (fun K hK => ?_)
                 rfl
                 go_simp
                 with_reducible refine hK _ _ ?_
                 clear hK K)
            (first | with_reducible refine sc0 (fun K hK => ?_) | with_reducible refine sc1 (fun K hK => ?_) | with_reducible refine sc2 (fun K hK => ?_) | with_reducible refine sc3 (fun K hK => ?_) | with_reducible refine sc4 (fun K hK => ?_))
            go_simp
            with_reducible refine (HWAK.out _ HBd.out).mono ?_
            clear c0 c1 c2 d0 d1 d2 e0 e1 e2 g0 g1 g2 h0 h1 h2 i0 i1 i2 j0 j1 j2 k0' k1' k2' l0 l1 l2 m0' m1' m2'
            rintro e xw ⟨rfl, hb9⟩
            refine ⟨hb9, hK _ _ ?_⟩
            clear hK K
            have HBd := Lib.hid (HBd.out.trans (hb9.mono (HLE.out _ HBd.out)))
            clear hb9
            obtain ⟨⟨c0, c1, c2⟩, ⟨d0, d1, d2⟩, ⟨e0, e1, e2⟩, ⟨g0, g1, g2⟩, ⟨h0, h1, h2⟩, ⟨i0, i1, i2⟩, ⟨j0, j1, j2⟩, ⟨k0', k1', k2'⟩, ⟨l0, l1, l2⟩, ⟨m0', m1', m2'⟩⟩ := HCELL.out _ HBd.out
            repeat
              first
              | (first | with_reducible refine sp0 (fun K hK => ?_) | with_reducible refine sp1 (fun K hK => ?_) | with_reducible refine sp2 (fun K hK => ?_) | with_reducible refine sp3 (fun K hK => ?_) | with_reducible refine sp4 (fun K hK => ?_)
                 go_simp
                 first
                 | (with_reducible refine hK _ _ ?_; clear hK K)
                 | (with_reducible apply Exists.intro
                    refine ⟨fun x hx => ?_, hK _ _ ?_⟩
                    first
                      | (with_reducible exact rfl)
                    clear hK K))
              | (first | with_reducible refine sk0 ?_ (fun K hK => ?_) | with_reducible refine sk1 ?_ (fun K hK => ?_) | with_reducible refine sk2 ?_ (fun K hK => ?_) | with_reducible refine sk3 ?_ (fun K hK => ?_) | with_reducible refine sk4 ?_ (fun K hK => ?_)
                 rfl
                 go_simp
                 with_reducible refine hK _ _ ?_
                 clear hK K)
            with_reducible refine seq_nil ?_
            clear c0 c1 c2 d0 d1 d2 e0 e1 e2 g0 g1 g2 h0 h1 h2 i0 i1 i2 j0 j1 j2 k0' k1' k2' l0 l1 l2 m0' m1' m2'
            go_wp2_with fail
            go_ret
            exact ⟨rfl, HB07.out.tr HBd.out (Nat.le_refl _)⟩
end Go.Proofs.Ytafekidkikfpcaa

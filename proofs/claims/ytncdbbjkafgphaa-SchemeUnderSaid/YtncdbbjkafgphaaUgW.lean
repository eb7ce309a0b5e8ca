/- scheme.graph.unite: two nodes, and what is below them, made the same. scheme.graph.add: a type's nodes laid. scheme.couple.addKids: the kids of two types, pair by pair, on a stack. -/
import Derived.Test.YtncdbbjkafgphaaUgA
import Derived.Test.YtncdbbjkafgphaaPbA
import Derived.Test.YtncdbbjkafgphaaTyW
namespace Go.Proofs.Ytncdbbjkafgphaa
open Go Go.RowKit
open Tp (T)
open Ug (Of Rt)
/-- Between two rounds. -/
def UnR (B gb : Nat) (m gv : Value) (rb n0 : Nat) (H0 : List GNd) (a b : Nat) (w : World) (gk : Nat) (v : Value) (wr : World) : Prop :=
  ∃ (H : List GNd) (O : List (Nat × Nat)), Ug.Un H0 a b H O ∧ GV B gb m gv wr H ∧ wr.ownsRow n0 100 2 v O.length (pqRow O.reverse) ∧ Kp n0 (fun k => k = rb) w wr ∧ n0 < wr.heap.size ∧ gk = 3 * Ug.roots H + O.length ∧ 3 * Ug.roots H + O.length ≤ 3 * H0.length + 1
theorem link_put {B rb cap : Nat} {w : World} {G H : List GNd} {p q : Nat} {d e : GNd} (hO : Of G H) (h : w.ownsRow B 88 4 (.slice (some ⟨rb, 0, none⟩) G.length cap) G.length (Ug.ndRow G))
    (hd : H[p]? = some d) (hp : d.up = p) (he : H[q]? = some e) (hq : e.up = q) (hne : q ≠ p) :
    ∃ G', Of G' (Ug.link H p q) ∧ (w.setCell ⟨rb, p * 4 + 3, none⟩ (.int .i64 (q : Int))).ownsRow B 88 4 (.slice (some ⟨rb, 0, none⟩) G'.length cap) G'.length (Ug.ndRow G') := by
  obtain ⟨g, hg, _⟩ := hO.get hd
  obtain ⟨f, hf, _⟩ := hO.get he
  have h1 := (hO.self hg hd).2 hp
  have h2 := (hO.self hf he).2 hq
  exact ⟨_, hO.link hg h1 hf h2 hne, nd_set h hg q⟩
theorem gv_link {B gb rb cap L : Nat} {m : Value} {w : World} {H : List GNd} {p q : Nat} {d e : GNd} (h : GV B gb m (.slice (some ⟨rb, 0, none⟩) L cap) w H) (hL : H.length = L) (hne0 : gb ≠ rb)
    (hd : H[p]? = some d) (hp : d.up = p) (he : H[q]? = some e) (hq : e.up = q) (hne : q ≠ p) : GV B gb m (.slice (some ⟨rb, 0, none⟩) L cap) (w.setCell ⟨rb, p * 4 + 3, none⟩ (.int .i64 (q : Int))) (Ug.link H p q) := by
  subst hL
  obtain ⟨G, hO, hown⟩ := h.row
  rw [← hO.len] at hown
  obtain ⟨G', h1, h2⟩ := link_put hO hown hd hp he hq hne
  refine ⟨⟨G', h1, ?_⟩, (Below.heap_setCell _ _ _ _ hne0).trans h.box, h.lo⟩
  have e : G'.length = H.length := h1.len.trans (Ug.link_len _ _ _)
  rw [e] at h2 ⊢; exact h2
theorem gv_node {B gb rb cap L : Nat} {m : Value} {w : World} {H : List GNd} (h : GV B gb m (.slice (some ⟨rb, 0, none⟩) L cap) w H) (hL : H.length = L) {p : Nat} {d : GNd} (hd : H[p]? = some d) :
    w.cell? ⟨rb, p * 4, none⟩ = some (.int .i64 d.kind) ∧ w.cell? ⟨rb, p * 4 + 1, none⟩ = some (.int .i64 (d.lo : Int)) ∧ w.cell? ⟨rb, p * 4 + 2, none⟩ = some (.int .i64 (d.hi : Int)) ∧ ∀ j, w.frozen? ⟨rb, j, none⟩ = false := by
  subst hL
  obtain ⟨G, hO, hown⟩ := h.row
  rw [← hO.len] at hown
  obtain ⟨g, hg, h1, h2, h3, _⟩ := hO.get hd
  obtain ⟨k0, k1, k2, _⟩ := nd_cells hown hg
  rw [h1] at k0; rw [h2] at k1; rw [h3] at k2
  exact ⟨k0, k1, k2, hown.frozenAt⟩
theorem gv_up {B gb rb cap L : Nat} {m : Value} {w : World} {H : List GNd} (h : GV B gb m (.slice (some ⟨rb, 0, none⟩) L cap) w H) (hL : H.length = L) {p : Nat} {d : GNd} (hd : H[p]? = some d) : ∃ u : Int, w.cell? ⟨rb, p * 4 + 3, none⟩ = some (.int .i64 u) := by
  subst hL
  obtain ⟨G, hO, hown⟩ := h.row
  rw [← hO.len] at hown
  obtain ⟨g, hg, _⟩ := hO.get hd
  exact ⟨_, (nd_cells hown hg).2.2.2⟩
theorem room {ro r L k K : Nat} (h : 3 * ro + (r + 1) ≤ 3 * L + 1) (hL : L ≤ 1000000) (hk : k < K) (hK : K ≤ 2) : k + r ≤ 4 * 1000000 := by omega
theorem less3 {ro ro' r K : Nat} (h : ro' < ro) (hK : K ≤ 2) : 3 * ro' + (K + r) < 3 * ro + (r + 1) := by omega
theorem i64_sub {a b L : Nat} (h : b ≤ a) (hl : a ≤ L) (hL : L ≤ 1000000) : IntKind.i64.wrap ((a : Int) - (b : Int)) = ((a - b : Nat) : Int) := by
  rw [IntKind.wrap_i64]; omega
theorem i64_add {a b : Nat} (h : a ≤ 1000000) (h' : b ≤ 1000000) : IntKind.i64.wrap ((a : Int) + (b : Int)) = ((a + b : Nat) : Int) := by rw [IntKind.wrap_i64]; omega
theorem gv_grown {B gb rb cap L n0 : Nat} {m : Value} {w w7 : World} {H : List GNd} {o : Obj} {row : Option Nat} (h : GV B gb m (.slice (some ⟨rb, 0, none⟩) L cap) w H) (hg : (w.alloc o).grownBy w7 row) (hr : ∀ k, row = some k → n0 ≤ k) (h1 : gb < n0) (h2 : rb < n0) (hn : n0 ≤ w.heap.size) : GV B gb m (.slice (some ⟨rb, 0, none⟩) L cap) w7 H := by
  have key : ∀ k, k < n0 → w7.heap[k]? = w.heap[k]? := fun k hk => (hg.block k (by rw [World.size_alloc]; omega) (fun e => by have := hr k e.symm; omega)).trans (Below.heap_alloc _ _ _ (by omega))
  exact h.same (key gb h1) (by rintro k ⟨⟩; exact key rb h2)
set_option maxRecDepth 100000 in
set_option maxHeartbeats 8000000 in
theorem unite_any (B gb rb cap : Nat) (m : Value) (H : List GNd) (a b : Nat) (w : World) (h : GV B gb m (.slice (some ⟨rb, 0, none⟩) H.length cap) w H) (hw : Ug.Wf H H.length) (hc : Ug.Cong H []) (ha : a < H.length) (hb : b < H.length) (hl : H.length ≤ 1000000) :
    Calls Try.prog 61 #[.pointer (some ⟨gb, 0, none⟩), .int .i64 (a : Int), .int .i64 (b : Int)] w fun e w' => Kp w.heap.size (fun k => k = rb) w w' ∧ ∃ r, e = .returned (.bool r) ∧
      (r = true → ∃ H', Ug.Un H a b H' [] ∧ GV B gb m (.slice (some ⟨rb, 0, none⟩) H.length cap) w' H') ∧ (r = false → ∀ v, Ug.Good v → ¬ (Ug.Sol H v ∧ v a = v b)) := by
  obtain ⟨G, rb', cap', hv, hO, hown, hrl, hrs, hne⟩ := gv_open h (by omega)
  injection hv with hv1 hv2 hv3
  injection hv1 with hv1
  injection hv1 with hv1
  subst hv1 hv3
  have hgs : gb < w.heap.size := (Array.getElem?_eq_some_iff.1 h.box).1
  obtain ⟨L, hL⟩ : ∃ L, H.length = L := ⟨_, rfl⟩
  rw [hL] at hl h ⊢
  obtain ⟨W1, hW1⟩ : ∃ W, w.alloc (.cells #[.int .i64 (a : Int), .int .i64 (b : Int)] 100) = W := ⟨_, rfl⟩
  have hstart : UnR B gb m (.slice (some ⟨rb, 0, none⟩) L cap) rb w.heap.size H a b w (3 * Ug.roots H + 1) (.slice (some ⟨w.heap.size, 0, none⟩) 1 1) W1 := by
    have hx : W1.heap[w.heap.size]? = some (.cells #[.int .i64 (a : Int), .int .i64 (b : Int)] 100) := by rw [← hW1]; exact World.alloc_heap_new _ _
    have hk : Kp w.heap.size (fun k => k = rb) w W1 := by rw [← hW1]; exact (Kp.refl _ _ _).alloc (Nat.le_refl _) _
    refine ⟨H, [(a, b)], Ug.Un.start hw hc ha hb, h.same ?_ ?_, own_mk (A := #[.int .i64 (a : Int), .int .i64 (b : Int)]) hx (Nat.le_refl _) (Nat.le_refl _) (by unfold maxLen; omega) rfl, hk, by rw [← hW1]; simp, rfl, by have := Ug.roots_le H; simp only [List.length_singleton]; omega⟩
    · rw [← hW1]; exact Below.heap_alloc _ _ _ hgs
    · rintro k ⟨⟩; rw [← hW1]; exact Below.heap_alloc _ _ _ hrs
  have HST := Lib.hid hstart; have HW1 := Lib.hid hW1; have HL := Lib.hid hL; have HRL := Lib.hid hrl; have HRS := Lib.hid hrs; have HNE := Lib.hid hne; have HGS := Lib.hid hgs; have HLL := Lib.hid hl
  clear hstart hW1 hrl hrs hne hgs hO hown h hw hc ha hb hL hl
  go_enter Try.func61, Try.ntmps61
  go_upto_region 2 with fail
  rw [HW1.out]
  go_loopg [7] (3 * Ug.roots H + 1) (fun gk v wr => UnR B gb m (.slice (some ⟨rb, 0, none⟩) L cap) rb w.heap.size H a b w gk v wr)
  case atStart => exact HST.out
  case round =>
    obtain ⟨H', O, hun, hgv, hown, hkp, hsz, rfl, hms⟩ := hrel
    have HMS := Lib.hid hms; clear hms
    have HUN := Lib.hid hun; have HGV := Lib.hid hgv; have HKP := Lib.hid hkp; have HSZ := Lib.hid hsz
    clear hun hgv hkp hsz HST
    cases O with
    | nil =>
      obtain ⟨av, cv, rfl⟩ := own_shapeT hown
      clear hown
      go_wp2_with fail
      go_ret
      exact ⟨HKP.out, true, rfl, fun _ => ⟨H', HUN.out, HGV.out⟩, fun h => by cases h⟩
    | cons xy R =>
      obtain ⟨x, y⟩ := xy
      obtain ⟨g, cap3, rfl, hg1, hg2, hcp, hcm, hx0, hx1, hown2⟩ := own_topP (v := u7) hown
      obtain ⟨r, hr⟩ : ∃ z, R.length = z := ⟨_, rfl⟩
      dsimp only at hx0 hx1
      rw [hr] at hx0 hx1 hcp hown2 ⊢
      have hpl := HUN.out.pl (x, y) (by simp)
      dsimp only at hpl
      obtain ⟨dx, hdx⟩ : ∃ d, H'[x]? = some d := ⟨_, List.getElem?_eq_getElem hpl.1⟩
      obtain ⟨dy, hdy⟩ : ∃ d, H'[y]? = some d := ⟨_, List.getElem?_eq_getElem hpl.2⟩
      have hHL : H'.length = L := HUN.out.len.trans HL.out
      have hgr : g ≠ rb := by have := HRS.out; omega
      have hpop := pq_pop g (r + 1) cap3 r (by omega) hcp
      have hrc : r + 1 ≤ maxLen := Nat.le_trans hcp hcm
      have hwr : wrap64 (r : Int) = (r : Int) := by unfold wrap64; unfold maxLen at hrc; omega
      obtain ⟨i0, i1⟩ := pt_int (Nat.lt_succ_self r)
      have i2 : (r : Int) < (r : Int) + 1 := Int.lt_succ _
      have HX0 := Lib.hid hx0; have HX1 := Lib.hid hx1; have HDX := Lib.hid hdx; have HDY := Lib.hid hdy; have HHL := Lib.hid hHL; have HGR := Lib.hid hgr; have HOWN2 := Lib.hid hown2; have HG1 := Lib.hid hg1; have HG2 := Lib.hid hg2; have HR := Lib.hid hr; have HRC := Lib.hid hrc
      clear hx0 hx1 hpl hdx hdy hHL hgr hown2 hg1 hg2 hr hown hcm
      go_upto_region 4 with fail
      refine wp_region_rel (R := Turns (fun k => k = rb)) (fun _ => Turns.refl _ _) (fun h1 h2 => h1.trans h2) [(0, false), (0, false), (0, false), (0, false), (0, false), (0, false), (1, false), (1, false), (1, false), (1, false), (1, false), (1, false), (0, true), (0, true), (0, false), (0, false)] (by kernel_rfl) (by kernel_rfl) (by kernel_rfl) (fun _ _ _ d _ h => by cases d <;> exact h) ?_
      have HT := Lib.hid (Turns.drew (fun k => k = rb) wr)
      have HD := Lib.hid (show GV B gb m (.slice (some ⟨rb, 0, none⟩) L cap) wr.drew H' from HGV.out.same rfl (fun _ _ => rfl))
      have HC := Lib.hid (fun q (hq : Turns (fun k => k = rb) wr q) => (⟨(World.cell?_of_block (a := ⟨g, r * 2, none⟩) (hq.block g HG2.out HGR.out)).trans HX0.out, (World.cell?_of_block (a := ⟨g, r * 2 + 1, none⟩) (hq.block g HG2.out HGR.out)).trans HX1.out⟩ : q.cell? ⟨g, r * 2, none⟩ = some (.int .i64 (x : Int)) ∧ q.cell? ⟨g, r * 2 + 1, none⟩ = some (.int .i64 (y : Int))))
      generalize wr.drew = wD at HT HD ⊢
      repeat
        first
        | (first | with_reducible refine rp0 (fun K hK => ?_) | with_reducible refine rp1 (fun K hK => ?_) | with_reducible refine rp2 (fun K hK => ?_) | with_reducible refine rp3 (fun K hK => ?_) | with_reducible refine rp4 (fun K hK => ?_)
           go_simp
           first
           | (with_reducible refine hK _ _ ?_; clear hK K)
           | (with_reducible apply Exists.intro
              refine ⟨fun x hx => ?_, hK _ _ ?_⟩
              first
                | (with_reducible exact rfl)
                | (have y0 := (HC.out x (HT.out.trans hx)).1; have y1 := (HC.out x (HT.out.trans hx)).2; go_simp; done)
                | (have y0 := (HC.out x (HT.out.trans hx)).1; have y1 := (HC.out x (HT.out.trans hx)).2; go_simp; with_reducible exact rfl)
              clear hK K))
        | (first | with_reducible refine rk0 ?_ (fun K hK => ?_) | with_reducible refine rk1 ?_ (fun K hK => ?_) | with_reducible refine rk2 ?_ (fun K hK => ?_) | with_reducible refine rk3 ?_ (fun K hK => ?_) | with_reducible refine rk4 ?_ (fun K hK => ?_)
           rfl
           go_simp
           with_reducible refine hK _ _ ?_
           clear hK K)
      first | with_reducible refine rc0 (fun K hK => ?_) | with_reducible refine rc1 (fun K hK => ?_) | with_reducible refine rc2 (fun K hK => ?_) | with_reducible refine rc3 (fun K hK => ?_) | with_reducible refine rc4 (fun K hK => ?_)
      go_simp
      rw [← HHL.out] at HD
      refine (find_any B gb rb cap m H' x dx wD HD.out HDX.out).mono ?_
      rintro e w2 ⟨rfl, hgv2, ht2⟩
      refine ⟨ht2, hK _ _ ?_⟩
      clear hK K
      have HT2 := Lib.hid (HT.out.trans ht2); have HD2 := Lib.hid hgv2
      clear hgv2 ht2
      repeat
        first
        | (first | with_reducible refine rp0 (fun K hK => ?_) | with_reducible refine rp1 (fun K hK => ?_) | with_reducible refine rp2 (fun K hK => ?_) | with_reducible refine rp3 (fun K hK => ?_) | with_reducible refine rp4 (fun K hK => ?_)
           go_simp
           first
           | (with_reducible refine hK _ _ ?_; clear hK K)
           | (with_reducible apply Exists.intro
              refine ⟨fun x hx => ?_, hK _ _ ?_⟩
              first
                | (with_reducible exact rfl)
                | (have y0 := (HC.out x (HT2.out.trans hx)).1; have y1 := (HC.out x (HT2.out.trans hx)).2; go_simp; done)
                | (have y0 := (HC.out x (HT2.out.trans hx)).1; have y1 := (HC.out x (HT2.out.trans hx)).2; go_simp; with_reducible exact rfl)
              clear hK K))
        | (first | with_reducible refine rk0 ?_ (fun K hK => ?_) | with_reducible refine rk1 ?_ (fun K hK => ?_) | with_reducible refine rk2 ?_ (fun K hK => ?_) | with_reducible refine rk3 ?_ (fun K hK => ?_) | with_reducible refine rk4 ?_ (fun K hK => ?_)
           rfl
           go_simp
           with_reducible refine hK _ _ ?_
           clear hK K)
      first | with_reducible refine rc0 (fun K hK => ?_) | with_reducible refine rc1 (fun K hK => ?_) | with_reducible refine rc2 (fun K hK => ?_) | with_reducible refine rc3 (fun K hK => ?_) | with_reducible refine rc4 (fun K hK => ?_)
      go_simp
      refine (find_any B gb rb cap m H' y dy w2 HD2.out HDY.out).mono ?_
      rintro e w3 ⟨rfl, hgv3, ht3⟩
      refine ⟨ht3, hK _ _ ?_⟩
      clear hK K
      rw [HHL.out] at hgv3
      have HT3 := Lib.hid (HT2.out.trans ht3); have HD3 := Lib.hid hgv3
      clear hgv3 ht3
      repeat
        first
        | (first | with_reducible refine rp0 (fun K hK => ?_) | with_reducible refine rp1 (fun K hK => ?_) | with_reducible refine rp2 (fun K hK => ?_) | with_reducible refine rp3 (fun K hK => ?_) | with_reducible refine rp4 (fun K hK => ?_)
           go_simp
           first
           | (with_reducible refine hK _ _ ?_; clear hK K)
           | (with_reducible apply Exists.intro
              refine ⟨fun x hx => ?_, hK _ _ ?_⟩
              first
                | (with_reducible exact rfl)
              clear hK K))
        | (first | with_reducible refine rk0 ?_ (fun K hK => ?_) | with_reducible refine rk1 ?_ (fun K hK => ?_) | with_reducible refine rk2 ?_ (fun K hK => ?_) | with_reducible refine rk3 ?_ (fun K hK => ?_) | with_reducible refine rk4 ?_ (fun K hK => ?_)
           rfl
           go_simp
           with_reducible refine hK _ _ ?_
           clear hK K)
      with_reducible refine rel_nil ?_
      have HK3 := Lib.hid (HKP.out.trans (Kp.of_turns (M' := fun k => k = rb) HT3.out HKP.out.size (fun _ h => h)))
      have hown3 : w3.ownsRow w.heap.size 100 2 (.slice (some ⟨g, 0, none⟩) r cap3) r (pqRow R.reverse) := own_same HOWN2.out (by rintro k ⟨⟩; exact HT3.out.block g HG2.out HGR.out)
      have HOWN3 := Lib.hid hown3
      have HSZ3 := Lib.hid (show w.heap.size < w3.heap.size from Nat.lt_of_lt_of_le HSZ.out HT3.out.size)
      clear hown3 HOWN2 HC
      obtain ⟨p, hp⟩ : ∃ p, dx.up = p := ⟨_, rfl⟩
      obtain ⟨q, hq⟩ : ∃ q, dy.up = q := ⟨_, rfl⟩
      rw [hp, hq]
      obtain ⟨d, hd, hdp, _⟩ := HUN.out.wf.top x dx HDX.out
      obtain ⟨e, he, heq, _⟩ := HUN.out.wf.top y dy HDY.out
      rw [hp] at hd hdp; rw [hq] at he heq
      obtain ⟨dk1, dk2, dk3, dk4⟩ := gv_node HD3.out HHL.out hd
      obtain ⟨ek1, ek2, ek3, _⟩ := gv_node HD3.out HHL.out he
      obtain ⟨dw1, dw2, _⟩ := HUN.out.wf.kids p d hd
      obtain ⟨ew1, ew2, _⟩ := HUN.out.wf.kids q e he
      rw [HHL.out] at dw2 ew2
      have hpl : p < L := by rw [← HHL.out]; exact (List.getElem?_eq_some_iff.1 hd).1
      have hql : q < L := by rw [← HHL.out]; exact (List.getElem?_eq_some_iff.1 he).1
      obtain ⟨p0, p1⟩ := pt_int hpl
      obtain ⟨q0, q1⟩ := pt_int hql
      have cb : w3.cell? ⟨gb, 0, none⟩ = some (.slice (some ⟨rb, 0, none⟩) L cap) := cell_box HD3.out.box rfl rfl
      have HP := Lib.hid hp; have HQ := Lib.hid hq; have HDD := Lib.hid hd; have HDP := Lib.hid hdp; have HEE := Lib.hid he; have HEQ := Lib.hid heq; have HDW := Lib.hid (And.intro dw1 dw2); have HEW := Lib.hid (And.intro ew1 ew2); have DK1 := Lib.hid dk1; have DK2 := Lib.hid dk2; have DK3 := Lib.hid dk3; have DK4 := Lib.hid dk4; have EK1 := Lib.hid ek1; have EK2 := Lib.hid ek2; have EK3 := Lib.hid ek3
      clear hp hq hd hdp he heq dw1 dw2 ew1 ew2 dk1 dk2 dk3 dk4 ek1 ek2 ek3 hpl hql
      go_upto_region 6 with fail
      refine wp_region_rel (R := Turns (fun k => k = rb)) (fun _ => Turns.refl _ _) (fun h1 h2 => h1.trans h2) [(0, false), (0, false), (0, false), (0, false), (0, false), (0, false), (0, false), (0, false), (0, false), (0, false), (0, false), (0, false), (0, false), (0, false)] (by kernel_rfl) (by kernel_rfl) (by kernel_rfl) (fun _ _ _ d _ h => by cases d <;> exact h) ?_
      clear cb
      have HB4 := Lib.hid (fun q (hq : Turns (fun k => k = rb) w3.drew q) => (cell_box (i := 0) (hq.heap HD3.out.box HNE.out) rfl rfl : q.cell? ⟨gb, 0, none⟩ = some (.slice (some ⟨rb, 0, none⟩) L cap)))
      obtain ⟨W4, hW4⟩ : ∃ W, w3.drew = W := ⟨_, rfl⟩
      rw [hW4]
      have HK4 := Lib.hid (show Kp w.heap.size (fun k => k = rb) w W4 by rw [← hW4]; exact HK3.out.drew)
      have HD4 := Lib.hid (show GV B gb m (.slice (some ⟨rb, 0, none⟩) L cap) W4 H' by rw [← hW4]; exact HD3.out.same rfl (fun _ _ => rfl))
      have HOWN4 := Lib.hid (show W4.ownsRow w.heap.size 100 2 (.slice (some ⟨g, 0, none⟩) r cap3) r (pqRow R.reverse) by rw [← hW4]; exact HOWN3.out)
      have HSZ4 := Lib.hid (show w.heap.size < W4.heap.size by rw [← hW4]; exact HSZ3.out)
      rw [hW4] at HB4
      clear hW4 HK3 HD3 HOWN3 HSZ3 HT3 HT2 HT HD HD2 HKP
      repeat
        first
        | (first | with_reducible refine rp0 (fun K hK => ?_) | with_reducible refine rp1 (fun K hK => ?_) | with_reducible refine rp2 (fun K hK => ?_) | with_reducible refine rp3 (fun K hK => ?_) | with_reducible refine rp4 (fun K hK => ?_)
           go_simp
           first
           | (with_reducible refine hK _ _ ?_; clear hK K)
           | (with_reducible apply Exists.intro
              refine ⟨fun x hx => ?_, hK _ _ ?_⟩
              first
                | (with_reducible exact rfl)
                | (have y0 := HB4.out x hx; go_simp; done)
                | (have y0 := HB4.out x hx; go_simp; with_reducible exact rfl)
              clear hK K))
        | (first | with_reducible refine rk0 ?_ (fun K hK => ?_) | with_reducible refine rk1 ?_ (fun K hK => ?_) | with_reducible refine rk2 ?_ (fun K hK => ?_) | with_reducible refine rk3 ?_ (fun K hK => ?_) | with_reducible refine rk4 ?_ (fun K hK => ?_)
           rfl
           go_simp
           with_reducible refine hK _ _ ?_
           clear hK K)
      with_reducible refine rel_nil ?_
      obtain ⟨dk1, dk2, dk3, dk4⟩ := gv_node HD4.out HHL.out HDD.out
      obtain ⟨ek1, ek2, ek3, _⟩ := gv_node HD4.out HHL.out HEE.out
      obtain ⟨dux, du⟩ := gv_up HD4.out HHL.out HDD.out
      obtain ⟨eux, eu⟩ := gv_up HD4.out HHL.out HEE.out
      by_cases hpq : p = q
      · have heqq : ((p : Int) == (q : Int)) = true := by simp [hpq]
        have HPQ := Lib.hid hpq
        clear hpq dk1 dk2 dk3 dk4 ek1 ek2 ek3 du eu
        go_wp2_with fail
        go_roundg (3 * Ug.roots H' + R.length)
        case measure => rw [List.length_cons]; omega
        case rel => exact ⟨H', R, HUN.out.skip HDX.out HDY.out (by rw [HP.out, HQ.out, HPQ.out]), HD4.out, by rw [HR.out]; exact HOWN4.out, HK4.out, HSZ4.out, rfl, by have := HMS.out; rw [List.length_cons] at this; omega⟩
      · have heqq : ((p : Int) == (q : Int)) = false := by simp; omega
        have HPQ := Lib.hid hpq
        have fp := dk4 (p * 4 + 3)
        have fq := dk4 (q * 4 + 3)
        clear dk4 dk2 dk3 ek2 ek3 hpq
        by_cases h6 : d.kind = 6
        · have g6 : (d.kind == 6) = true := by simp [h6]
          have hD5 := gv_link HD4.out HHL.out HNE.out HDD.out HDP.out HEE.out HEQ.out (fun h => HPQ.out h.symm)
          have hu5 := HUN.out.var HDX.out HDY.out HDD.out HDP.out HEE.out HEQ.out (fun h => HPQ.out h.symm) (.inl ⟨HP.out, HQ.out⟩) h6
          have hr5 := Ug.roots_link HDD.out HDP.out HEE.out HEQ.out (fun h => HPQ.out h.symm)
          have HD5 := Lib.hid hD5; have HU5 := Lib.hid hu5; have HR5 := Lib.hid hr5
          clear hD5 hu5 hr5 h6
          go_wp2_with fail
          go_roundg (3 * Ug.roots (Ug.link H' p q) + R.length)
          case measure => have := HR5.out; rw [List.length_cons]; omega
          case rel => exact ⟨_, R, HU5.out, HD5.out, by rw [HR.out]; exact own_same HOWN4.out (by rintro k ⟨⟩; exact Below.heap_setCell _ _ _ _ HGR.out), HK4.out.setCell (.inr rfl) _, by rw [size_setCell]; exact HSZ4.out, rfl, by have := HMS.out; rw [List.length_cons] at this; have := HR5.out; omega⟩
        · have g6 : (d.kind == 6) = false := by simp [h6]
          by_cases h6' : e.kind = 6
          · have g6' : (e.kind == 6) = true := by simp [h6']
            have hD5 := gv_link HD4.out HHL.out HNE.out HEE.out HEQ.out HDD.out HDP.out HPQ.out
            have hu5 := HUN.out.var HDX.out HDY.out HEE.out HEQ.out HDD.out HDP.out HPQ.out (.inr ⟨HP.out, HQ.out⟩) h6'
            have hr5 := Ug.roots_link HEE.out HEQ.out HDD.out HDP.out HPQ.out
            have HD5 := Lib.hid hD5; have HU5 := Lib.hid hu5; have HR5 := Lib.hid hr5
            clear hD5 hu5 hr5 h6 h6'
            go_wp2_with fail
            go_roundg (3 * Ug.roots (Ug.link H' q p) + R.length)
            case measure => have := HR5.out; rw [List.length_cons]; omega
            case rel => exact ⟨_, R, HU5.out, HD5.out, by rw [HR.out]; exact own_same HOWN4.out (by rintro k ⟨⟩; exact Below.heap_setCell _ _ _ _ HGR.out), HK4.out.setCell (.inr rfl) _, by rw [size_setCell]; exact HSZ4.out, rfl, by have := HMS.out; rw [List.length_cons] at this; have := HR5.out; omega⟩
          · have g6' : (e.kind == 6) = false := by simp [h6']
            by_cases hk : d.kind = e.kind
            · have gk : (d.kind != e.kind) = false := by simp [hk]
              obtain ⟨hlen, hu5⟩ := HUN.out.node HDX.out HDY.out HDD.out HDP.out HEE.out HEQ.out HPQ.out HP.out HQ.out h6 hk
              have hr5 := Ug.roots_link HEE.out HEQ.out HDD.out HDP.out HPQ.out
              obtain ⟨K, hK⟩ : ∃ K, d.hi - d.lo = K := ⟨_, rfl⟩
              have hK2 : K ≤ 2 := by have h1 := (HUN.out.wf.kids p d HDD.out).2.2.1; have h2 := arity_le d.kind; rw [hK] at h1; omega
              rw [hK] at hu5
              have HU5 := Lib.hid hu5; have HR5 := Lib.hid hr5; have HKK := Lib.hid hK; have HK2 := Lib.hid hK2; have HLEN := Lib.hid hlen
              clear hu5 hr5 hK hK2 hlen h6 h6' hk
              go_upto_region 18 with fail
              refine wp_region_rel (R := Turns (fun _ => False)) (fun _ => Turns.refl _ _) (fun h1 h2 => h1.trans h2) [(0, false), (0, false), (0, false), (0, false), (0, false), (0, false), (0, false), (0, false), (0, false), (0, false)] (by kernel_rfl) (by kernel_rfl) (by kernel_rfl) (fun _ _ _ d _ h => by cases d <;> exact h) ?_
              have HB5 := Lib.hid (fun z (hz : Turns (fun _ => False) W4.drew z) => (⟨(World.cell?_of_block (a := ⟨rb, p * 4, none⟩) (hz.block rb (Nat.lt_trans HRS.out HSZ4.out) (fun h => h))).trans dk1, (World.cell?_of_block (a := ⟨rb, q * 4, none⟩) (hz.block rb (Nat.lt_trans HRS.out HSZ4.out) (fun h => h))).trans ek1⟩ : z.cell? ⟨rb, p * 4, none⟩ = some (.int .i64 d.kind) ∧ z.cell? ⟨rb, q * 4, none⟩ = some (.int .i64 e.kind)))
              clear dk1 ek1
              repeat
                first
                | (first | with_reducible refine rp0 (fun K hK => ?_) | with_reducible refine rp1 (fun K hK => ?_) | with_reducible refine rp2 (fun K hK => ?_) | with_reducible refine rp3 (fun K hK => ?_) | with_reducible refine rp4 (fun K hK => ?_)
                   go_simp
                   first
                   | (with_reducible refine hK _ _ ?_; clear hK K)
                   | (with_reducible apply Exists.intro
                      refine ⟨fun x hx => ?_, hK _ _ ?_⟩
                      first
                        | (with_reducible exact rfl)
                        | (have y0 := (HB5.out x hx).1; have y1 := (HB5.out x hx).2; go_simp; done)
                        | (have y0 := (HB5.out x hx).1; have y1 := (HB5.out x hx).2; go_simp; with_reducible exact rfl)
                      clear hK K))
                | (first | with_reducible refine rk0 ?_ (fun K hK => ?_) | with_reducible refine rk1 ?_ (fun K hK => ?_) | with_reducible refine rk2 ?_ (fun K hK => ?_) | with_reducible refine rk3 ?_ (fun K hK => ?_) | with_reducible refine rk4 ?_ (fun K hK => ?_)
                   rfl
                   go_simp
                   with_reducible refine hK _ _ ?_
                   clear hK K)
              with_reducible refine rel_nil ?_
              have hD5 := gv_link HD4.out HHL.out HNE.out HEE.out HEQ.out HDD.out HDP.out HPQ.out
              go_upto_region 8 with fail
              have hD6 : GV B gb m (.slice (some ⟨rb, 0, none⟩) L cap) ((W4.setCell ⟨rb, q * 4 + 3, none⟩ (.int .i64 (p : Int))).drew) (Ug.link H' q p) := hD5.same rfl (fun _ _ => rfl)
              have hK6 : Kp w.heap.size (fun k => k = rb) w ((W4.setCell ⟨rb, q * 4 + 3, none⟩ (.int .i64 (p : Int))).drew) := (HK4.out.setCell (.inr rfl) _).drew
              have hO6 : ((W4.setCell ⟨rb, q * 4 + 3, none⟩ (.int .i64 (p : Int))).drew).ownsRow w.heap.size 100 2 (.slice (some ⟨g, 0, none⟩) r cap3) r (pqRow R.reverse) := own_same HOWN4.out (by rintro k ⟨⟩; exact Below.heap_setCell _ _ _ _ HGR.out)
              have hS6 : w.heap.size < ((W4.setCell ⟨rb, q * 4 + 3, none⟩ (.int .i64 (p : Int))).drew).heap.size := by show w.heap.size < (W4.setCell ⟨rb, q * 4 + 3, none⟩ (.int .i64 (p : Int))).heap.size; rw [size_setCell]; exact HSZ4.out
              clear hD5 du eu fp fq
              generalize (W4.setCell ⟨rb, q * 4 + 3, none⟩ (.int .i64 (p : Int))).drew = W6 at hD6 hK6 hO6 hS6 ⊢
              have HD6 := Lib.hid hD6; have HK6 := Lib.hid hK6; have HO6 := Lib.hid hO6; have HS6 := Lib.hid hS6
              clear hD6 hK6 hO6 hS6 HD4 HK4 HOWN4 HSZ4 HB5 HB4
              have hdl : (Ug.link H' q p)[p]? = some d := by rw [Ug.link_get HDD.out, if_neg (by rw [HDP.out]; exact HPQ.out)]
              have HDL := Lib.hid hdl
              have HLL2 := Lib.hid (show (Ug.link H' q p).length = L by rw [Ug.link_len]; exact HHL.out)
              have hel : ∃ e', (Ug.link H' q p)[q]? = some e' ∧ e'.lo = e.lo := ⟨_, Ug.link_get HEE.out, Ug.lo_if _ _ _⟩
              obtain ⟨e', hel, helo⟩ := hel
              have HEL := Lib.hid hel; have HELO := Lib.hid helo
              clear hdl hel helo
              refine wp_region_rel (R := Turns (fun _ => False)) (fun _ => Turns.refl _ _) (fun h1 h2 => h1.trans h2) [(0, false), (0, false), (0, false), (0, false), (0, false), (0, false), (0, false), (0, false), (0, false), (0, false)] (by kernel_rfl) (by kernel_rfl) (by kernel_rfl) (fun _ _ _ d _ h => by cases d <;> exact h) ?_
              have HB7 := Lib.hid (fun z (hz : Turns (fun _ => False) W6.drew z) => (⟨(World.cell?_of_block (a := ⟨rb, p * 4 + 1, none⟩) (hz.block rb (Nat.lt_trans HRS.out HS6.out) (fun h => h))).trans (gv_node HD6.out HLL2.out HDL.out).2.1, (World.cell?_of_block (a := ⟨rb, p * 4 + 2, none⟩) (hz.block rb (Nat.lt_trans HRS.out HS6.out) (fun h => h))).trans (gv_node HD6.out HLL2.out HDL.out).2.2.1⟩ : z.cell? ⟨rb, p * 4 + 1, none⟩ = some (.int .i64 (d.lo : Int)) ∧ z.cell? ⟨rb, p * 4 + 2, none⟩ = some (.int .i64 (d.hi : Int))))
              have hsub : IntKind.i64.wrap ((d.hi : Int) - (d.lo : Int)) = (K : Int) := by rw [← HKK.out]; exact i64_sub HDW.out.1 HDW.out.2 HLL.out
              repeat
                first
                | (first | with_reducible refine rp0 (fun K hK => ?_) | with_reducible refine rp1 (fun K hK => ?_) | with_reducible refine rp2 (fun K hK => ?_) | with_reducible refine rp3 (fun K hK => ?_) | with_reducible refine rp4 (fun K hK => ?_)
                   go_simp
                   first
                   | (with_reducible refine hK _ _ ?_; clear hK K)
                   | (with_reducible apply Exists.intro
                      refine ⟨fun x hx => ?_, hK _ _ ?_⟩
                      first
                        | (with_reducible exact rfl)
                        | (have y0 := (HB7.out x hx).1; have y1 := (HB7.out x hx).2; go_simp; done)
                        | (have y0 := (HB7.out x hx).1; have y1 := (HB7.out x hx).2; go_simp; with_reducible exact rfl)
                      clear hK K))
                | (first | with_reducible refine rk0 ?_ (fun K hK => ?_) | with_reducible refine rk1 ?_ (fun K hK => ?_) | with_reducible refine rk2 ?_ (fun K hK => ?_) | with_reducible refine rk3 ?_ (fun K hK => ?_) | with_reducible refine rk4 ?_ (fun K hK => ?_)
                   rfl
                   go_simp
                   with_reducible refine hK _ _ ?_
                   clear hK K)
              with_reducible refine rel_nil ?_
              have HD7 := Lib.hid (show GV B gb m (.slice (some ⟨rb, 0, none⟩) L cap) W6.drew (Ug.link H' q p) from HD6.out.same rfl (fun _ _ => rfl))
              have HK7 := Lib.hid (show Kp w.heap.size (fun k => k = rb) w W6.drew from HK6.out.drew)
              have HO7 := Lib.hid (show W6.drew.ownsRow w.heap.size 100 2 (.slice (some ⟨g, 0, none⟩) r cap3) r (pqRow R.reverse) from HO6.out)
              have HS7 := Lib.hid (show w.heap.size < W6.drew.heap.size from HS6.out)
              generalize W6.drew = W7 at HD7 HK7 HO7 HS7 ⊢
              clear HD6 HK6 HO6 HS6 HB7 hsub
              go_wp2_with fail
              go_loopg [7, 66] K (fun gk v v66 wx => ∃ k : Nat, v66 = .int .i64 (k : Int) ∧ k ≤ K ∧ wx.ownsRow w.heap.size 100 2 v (k + r) (pqRow (Ug.kp d e k ++ R).reverse) ∧ Kp w.heap.size (fun k => k = rb) w wx ∧ GV B gb m (.slice (some ⟨rb, 0, none⟩) L cap) wx (Ug.link H' q p) ∧ w.heap.size < wx.heap.size ∧ gk = K - k)
              case atStart => exact ⟨0, rfl, Nat.zero_le _, by rw [Nat.zero_add]; exact HO7.out, HK7.out, HD7.out, HS7.out, rfl⟩
              case round =>
                obtain ⟨k, rfl, hkK, hown, hkp, hgv, hsz, rfl⟩ := hrel
                obtain ⟨av, cv, rfl⟩ := own_shapeT hown
                have HO8 := Lib.hid hown; have HK8 := Lib.hid hkp; have HD8 := Lib.hid hgv; have HS8 := Lib.hid hsz
                clear hown hkp hgv hsz HO7 HK7 HD7 HS7
                by_cases hlt : k < K
                · obtain ⟨k0, k1⟩ := pt_int hlt
                  have hms := HMS.out
                  rw [List.length_cons, HR.out, HL.out] at hms
                  have hkl := room hms HLL.out hlt HK2.out
                  obtain ⟨b1, b2⟩ := b16 hkl
                  have B1 := Lib.hid b1; have B2 := Lib.hid b2
                  obtain ⟨nn, hnn⟩ : ∃ n, k + r = n := ⟨_, rfl⟩
                  rw [hnn] at HO8 B1 B2 ⊢
                  have dl : wr.cell? ⟨rb, p * 4 + 1, none⟩ = some (.int .i64 (d.lo : Int)) := (gv_node HD8.out HLL2.out HDL.out).2.1
                  have el : wr.cell? ⟨rb, q * 4 + 1, none⟩ = some (.int .i64 (e.lo : Int)) := by rw [← HELO.out]; exact (gv_node HD8.out HLL2.out HEL.out).2.1
                  have hd1 : IntKind.i64.wrap ((d.lo : Int) + (k : Int)) = ((d.lo + k : Nat) : Int) := i64_add (Nat.le_trans HDW.out.1 (Nat.le_trans HDW.out.2 HLL.out)) (Nat.le_trans (Nat.le_of_lt hlt) (Nat.le_trans HK2.out (by decide)))
                  have he1 : IntKind.i64.wrap ((e.lo : Int) + (k : Int)) = ((e.lo + k : Nat) : Int) := i64_add (Nat.le_trans HEW.out.1 (Nat.le_trans HEW.out.2 HLL.out)) (Nat.le_trans (Nat.le_of_lt hlt) (Nat.le_trans HK2.out (by decide)))
                  obtain ⟨i0, hi, hz0, hz1, hz2⟩ := info_parts info_pq
                  have HX := Lib.hid HO8.out
                  have HNX := Lib.hid (Nat.le_of_lt HS8.out)
                  have HNN := Lib.hid hnn; have HKL := Lib.hid hkl
                  clear b1 b2 hnn hms hkl
                  go_upto_region 11 with fail
                  go_region_law (first | (refine step_append_lies _ ?_ (.tmp 69) (.tmp 83) 101 ?_ w.heap.size 100 i0 (.agg #[.int .i64 0, .int .i64 0]) 2 16 Try.underlying101 hi hz0 hz1 hz2 ?_ ?_ (.slice av nn cv) nn (pqRow (Ug.kp d e k ++ R).reverse) ?_ ?_ ⟨wr.heap.size, 0, none⟩ 1 1 [.int .i64 ((d.lo + k : Nat) : Int), .int .i64 ((e.lo + k : Nat) : Int)] ?_ ?_ ?_ ?_ ?_ ?_ ?_ ?_ (wr.heap.size + 1) ?_ ?_; (· rfl); (· rfl); (· rfl); (· decide); (· rfl); (· exact HX.out.alloc _); (· rfl); (· rfl); (· exact World.news_of_block (World.alloc_heap_new wr _)); (· exact two_ints _ _); (· decide); (· exact B2.out); (· exact B1.out); (· exact Nat.le_trans HNX.out (by simp)); (· simp); intro g1 cap1 w7 own1 gr1 ly1 _))
                  all_goals
                    have gr1' := undrew gr1
                    have HK9 := Lib.hid ((HK8.out.alloc HNX.out _).grown gr1' (Nat.le_trans HNX.out (by simp)) (fun z hz => .inl (HX.out.lt z hz).1))
                    have HD9 := Lib.hid (gv_grown HD8.out gr1' (fun z hz => (HX.out.lt z hz).1) HGS.out HRS.out HNX.out)
                    have HS9 := Lib.hid (show w.heap.size < w7.heap.size by have h1 := gr1'.size; rw [World.size_alloc] at h1; have h2 := HS8.out; omega)
                    have hown9 : w7.ownsRow w.heap.size 100 2 (.slice (some ⟨g1, 0, none⟩) (nn + 1) cap1) (k + 1 + r) (pqRow (Ug.kp d e (k + 1) ++ R).reverse) := by
                      rw [Ug.kp_succ, List.cons_append, List.reverse_cons, pqRow_snoc, show k + 1 + r = nn + 1 from by rw [← HNN.out]; omega]
                      exact own1
                    have HO9 := Lib.hid hown9
                    clear gr1 gr1' ly1 own1 hown9 hd1 he1 dl el k0 k1 hi hz0 hz1 hz2
                    go_wp2_with fail
                    go_roundg (K - (k + 1))
                    case measure => omega
                    case rel => exact ⟨k + 1, by exact wrap_k (Nat.le_trans (Nat.le_of_lt hlt) (Nat.le_trans HK2.out (by decide))), hlt, HO9.out, HK9.out, HD9.out, HS9.out, rfl⟩
                · obtain rfl : k = K := by omega
                  go_wp2_with fail
                  go_roundg (3 * Ug.roots (Ug.link H' q p) + (Ug.kp d e k ++ R).length)
                  case measure => rw [List.length_cons, List.length_append, Ug.kp_len]; exact less3 HR5.out HK2.out
                  case rel => exact ⟨_, Ug.kp d e k ++ R, HU5.out, HD8.out, by rw [List.length_append, Ug.kp_len, HR.out]; exact HO8.out, HK8.out, HS8.out, rfl, by have h3 := HMS.out; rw [List.length_cons] at h3; rw [List.length_append, Ug.kp_len]; exact Nat.le_trans (Nat.le_of_lt (less3 HR5.out HK2.out)) h3⟩
            · have gk : (d.kind != e.kind) = true := by simp [hk]
              have HNO := Lib.hid (HUN.out.no HDX.out HDY.out HDD.out HEE.out HP.out HQ.out h6 h6' hk)
              clear h6 h6' hk
              go_upto_region 18 with fail
              go_quiet (fail)
              go_wp2_with fail
              go_ret
              exact ⟨HK4.out.drewN _, false, rfl, (fun h => by cases h), fun _ => HNO.out⟩
end Go.Proofs.Ytncdbbjkafgphaa
namespace Go.Proofs.Ytncdbbjkafgphaa
open Go Go.RowKit
open Tp (T)
open Ug (Of Rt)
/-- What add may turn. -/
def AdM (gb mb : Nat) (v0 : Value) : Nat → Prop := fun z => z = gb ∨ z = mb ∨ v0.ownBlock = some z
/-- Between two rounds. -/
structure AdR (B gb mb : Nat) (v0 : Value) (H0 : List GNd) (F0 : Ug.Fi) (o : Int) (t : T) (w : World) (gk : Nat) (v8 : Value) (k : Nat) (ks : List Ke) (v : Value) (n : Nat) (H : List GNd) (F : Ug.Fi) (wr : World) : Prop where
  add : Ug.Add H0 F0 o t k (ks.map Ke.t) H F
  row : wr.ownsRow w.heap.size 24 3 v8 ks.length (rowCells ks)
  each : ∀ e ∈ ks, TyAt (LT B) wr e.t e.a e.cap
  gv : GV B gb (.map (some mb)) v wr H
  vat : VAt wr mb n F
  nl : n ≤ H.length
  keep : Kp w.heap.size (AdM gb mb v0) w wr
  vown : ∀ z, v.ownBlock = some z → w.heap.size ≤ z ∨ v0.ownBlock = some z
  gk : gk + k = Tp.size t
theorem adr_len {B gb mb : Nat} {v0 : Value} {H0 : List GNd} {F0 : Ug.Fi} {o : Int} {t : T} {w : World} {gk : Nat} {v8 : Value} {k : Nat} {ks : List Ke} {v : Value} {n : Nat} {H : List GNd} {F : Ug.Fi} {wr : World} (h : AdR B gb mb v0 H0 F0 o t w gk v8 k ks v n H F wr) :
    ks.length ≤ Tp.size t ∧ k ≤ ks.length ∧ H.length = H0.length + k := by
  have h1 := h.add.size
  have h2 := h.add.kl
  have h3 := Tp.length_le_sizes ((ks.map Ke.t).drop k)
  rw [List.length_drop] at h3
  rw [List.length_map] at h2 h3
  exact ⟨by omega, h2, h.add.len⟩
theorem gv_put {B gb : Nat} {m v v' : Value} {w7 : World} {G H' : List GNd} {d : GNd} (hb : w7.heap[gb]? = some (.cells #[v, m] 62)) (hlo : B ≤ gb) (hO : Of (G ++ [d]) H')
    (hown : w7.ownsRow B 88 4 v' (G.length + 1) (Ug.ndRow G ++ Ug.ndCells d)) : GV B gb m v' (w7.setCell ⟨gb, 0, none⟩ v') H' := by
  have hne : v'.ownBlock ≠ some gb := gv_far hown hb (fun A h => by injection h with _ h; exact absurd h (by decide))
  refine ⟨⟨_, hO, ?_⟩, ?_, hlo⟩
  · rw [List.length_append, Ug.ndRow_snoc]
    exact own_same hown (fun z hz => Below.heap_setCell _ _ _ _ (fun (e : z = gb) => hne (e ▸ hz)))
  · have := heap_setCell_same w7 gb 0 #[v, m] 62 v' hb
    rw [this]; rfl
theorem own_block {B n sz : Nat} {w : World} {v : Value} {xs : List Value} {e : TypeId} (h : w.ownsRow B e sz v n xs) {z : Nat} (hz : v.ownBlock = some z) : z < w.heap.size ∧ ∃ A, w.heap[z]? = some (.cells A e) := by
  rcases h.2 with ⟨h1, _⟩ | ⟨g, cap, cur, h1, _, h3, _⟩
  · rw [h1] at hz; cases hz
  · rw [h1] at hz; injection hz with hz; dsimp only at hz; subst hz; exact ⟨(Array.getElem?_eq_some_iff.1 h3).1, cur, h3⟩
theorem own_ne {B n sz : Nat} {w : World} {v : Value} {xs : List Value} {e : TypeId} (h : w.ownsRow B e sz v n xs) {b : Nat} {A : Array Value} {s : TypeId} (hb : w.heap[b]? = some (.cells A s)) (hs : s ≠ e) : v.ownBlock ≠ some b := fun hz => by
  obtain ⟨_, A', h2⟩ := own_block h hz
  rw [hb] at h2; injection h2 with h2; injection h2 with _ h2; exact hs h2
theorem grown_other {W w8 : World} {tb n c : Nat} (hg : W.grownBy w8 (Value.slice (some ⟨tb, 0, none⟩) n c).ownBlock) {z : Nat} {o : Obj} (hz : W.heap[z]? = some o) (hne : z ≠ tb) : w8.heap[z]? = some o :=
  (hg.block z (Array.getElem?_eq_some_iff.1 hz).1 (fun e => hne (by injection e))).trans hz
theorem graph_no {A : Array Value} : ∀ C, Obj.cells A 62 ≠ .cells C 88 := fun C h => by injection h with _ h; exact absurd h (by decide)
theorem vat_block {W : World} {b n : Nat} {F : Ug.Fi} (h : VAt W b n F) : ∃ o, W.heap[b]? = some o ∧ ∀ A s, o ≠ .cells A s := by
  obtain ⟨D, ⟨es, cl, h1, _⟩, _⟩ := h
  exact ⟨_, h1, fun A s h => by cases h⟩
/-- What neither is the nodes' row nor the graph's box stays, behind a node more. -/
theorem add_far {B gb n : Nat} {W w7 : World} {o : Obj} {v v' : Value} {xs : List Value} (hg : (W.alloc o).grownBy w7 v.ownBlock) (hown : W.ownsRow B 88 4 v n xs) (z : Nat) (oz : Obj) (hz : W.heap[z]? = some oz) (hn : ∀ A, oz ≠ .cells A 88) (hne : z ≠ gb) :
    (w7.setCell ⟨gb, 0, none⟩ v').heap[z]? = W.heap[z]? :=
  (Below.heap_setCell _ _ _ _ hne).trans ((hg.block z (by rw [World.size_alloc]; have := (Array.getElem?_eq_some_iff.1 hz).1; omega) (fun e => gv_far hown hz hn e.symm)).trans (Below.heap_alloc _ _ _ (Array.getElem?_eq_some_iff.1 hz).1))
theorem gk_less {gk k s m : Nat} (h : gk + k = s) (hm : m ≤ s) (hk : k < m) : gk - 1 < gk := by omega
theorem gk_next {gk k s m : Nat} (h : gk + k = s) (hm : m ≤ s) (hk : k < m) : gk - 1 + (k + 1) = s := by omega
/-- Below B two worlds that keep what the first one held are alike. -/
theorem kp_two {n B : Nat} {M : Nat → Prop} {w a b : World} (h1 : Kp n M w a) (h2 : Kp n M w b) (hB : B ≤ n) (hM : ∀ z, M z → B ≤ z) : ∀ z, z < B → b.heap[z]? = a.heap[z]? := fun z hz =>
  (h2.block z (by omega) (fun x => by have := hM z x; omega)).trans (h1.block z (by omega) (fun x => by have := hM z x; omega)).symm
theorem b32u {r : Nat} (h : r ≤ 4 * 1000000) : (r + 1) * 32 ≤ 140737488355328 ∧ r + 1 ≤ maxLen := by unfold maxLen; omega
theorem four_ints (a b c d : Int) : ∀ u ∈ [Value.int .i64 a, .int .i64 b, .int .i64 c, .int .i64 d], u.oneCell' = true := by
  intro u hu
  simp only [List.mem_cons, List.not_mem_nil, or_false] at hu
  rcases hu with rfl | rfl | rfl | rfl <;> rfl
theorem w64_add {a b : Nat} (h : a ≤ 4 * 1000000) (h' : b ≤ 4 * 1000000) : wrap64 ((a : Int) + (b : Int)) = ((a + b : Nat) : Int) := by unfold wrap64; omega
theorem firstOf_old (gb mb n : Nat) (v : Value) (F : Ug.Fi) (o k : Int) (h p : Nat) (w : World) (hb : w.heap[gb]? = some (.cells #[v, .map (some mb)] 62)) (hm : VAt w mb n F) (hn : n ≤ 4 * 1000000) (ho : I64 o) (hk : I64 k) (hh : h ≤ 4 * 1000000) (hF : F o k = some p) :
    Calls Try.prog 76 #[.pointer (some ⟨gb, 0, none⟩), .agg #[.int .i64 o, .int .i64 k], .int .i64 (h : Int)] w fun e w' => e = .returned (.int .i64 (p : Int)) ∧ VAt w' mb n F ∧ Kp w.heap.size (fun _ => False) w w' :=
  (firstOf_any gb mb n v F o k h w hb hm hn ho hk hh).mono fun e w' hp => by
    rcases hp with ⟨q, h1, h2, h3, h4⟩ | ⟨h1, _⟩
    · rw [hF] at h1; injection h1 with h1; subst h1; exact ⟨h2, h3, h4⟩
    · rw [hF] at h1; cases h1
theorem firstOf_new (gb mb n : Nat) (v : Value) (F : Ug.Fi) (o k : Int) (h : Nat) (w : World) (hb : w.heap[gb]? = some (.cells #[v, .map (some mb)] 62)) (hm : VAt w mb n F) (hn : n ≤ 4 * 1000000) (ho : I64 o) (hk : I64 k) (hh : h ≤ 4 * 1000000) (hF : F o k = none) :
    Calls Try.prog 76 #[.pointer (some ⟨gb, 0, none⟩), .agg #[.int .i64 o, .int .i64 k], .int .i64 (h : Int)] w fun e w' => e = .returned (.int .i64 (h : Int)) ∧ VAt w' mb (n + 1) (putF F o k h) ∧ Kp w.heap.size (fun z => z = mb) w w' :=
  (firstOf_any gb mb n v F o k h w hb hm hn ho hk hh).mono fun e w' hp => by
    rcases hp with ⟨q, h1, _⟩ | ⟨_, h2, h3, h4⟩
    · rw [hF] at h1; cases h1
    · exact ⟨h2, h3, h4⟩
theorem set_box {w : World} {b j : Nat} {A : Array Value} {e : TypeId} {u : Value} {o : Obj} (h : w.heap[b]? = some (.cells A e)) (ho : Obj.cells (A.setIfInBounds j u) e = o) : (w.setCell ⟨b, j, none⟩ u).heap[b]? = some o := by
  rw [heap_setCell_same w b j A e u h, ho]
theorem arm_row {B n sz b : Nat} {w : World} {v : Value} {xs : List Value} {A : Array Value} (h : w.ownsRow B 24 sz v n xs) (hb : w.heap[b]? = some (.cells A 88)) (u : Value) (j : Nat) : (w.setCell ⟨b, j, none⟩ u).ownsRow B 24 sz v n xs :=
  own_same h (fun z hz => Below.heap_setCell _ _ _ _ (fun (e : z = b) => own_ne h hb (by decide) (e ▸ hz)))
theorem arm_vat {b n mb : Nat} {w : World} {F : Ug.Fi} {A : Array Value} {e : TypeId} (h : VAt w mb n F) (hb : w.heap[b]? = some (.cells A e)) (u : Value) (j : Nat) : VAt (w.setCell ⟨b, j, none⟩ u) mb n F :=
  h.same (Below.heap_setCell _ _ _ _ (fun (x : mb = b) => by obtain ⟨o, ho, hn⟩ := vat_block h; rw [x, hb] at ho; injection ho with ho; exact hn _ _ ho.symm))
theorem arm_gv {B gb b : Nat} {m v : Value} {w : World} {H : List GNd} (h : GV B gb m v w H) (hg : gb < b) (hv : ∀ z, v.ownBlock = some z → z < b) (u : Value) (j : Nat) : GV B gb m v (w.setCell ⟨b + 1, j, none⟩ u) H :=
  h.same (Below.heap_setCell _ _ _ _ (by show gb ≠ b + 1; omega)) (fun z hz => Below.heap_setCell _ _ _ _ (by have := hv z hz; show z ≠ b + 1; omega))
theorem arm_low {B gb : Nat} {m v : Value} {w : World} {H : List GNd} (h : GV B gb m v w H) : ∀ z, v.ownBlock = some z → z < w.heap.size := fun z hz => by
  obtain ⟨G, _, hown⟩ := h.row; exact (hown.lt z hz).2
theorem i64_small {x : Int} (h : 0 ≤ x) (h2 : x ≤ 1048576) : I64 x := by unfold I64; omega
set_option maxRecDepth 100000 in
set_option maxHeartbeats 8000000 in
theorem add_any (B gb mb n : Nat) (v : Value) (H : List GNd) (F : Ug.Fi) (o : Int) (t : T) (a : Option Addr) (cap : Nat) (w : World) (h : GV B gb (.map (some mb)) v w H) (hm : VAt w mb n F) (hmB : B ≤ mb) (hn : n ≤ H.length) (hw : Ug.Wf H H.length) (hc : Ug.Cong H [])
    (hf : ∀ a n p, F a n = some p → p < H.length) (ht : Tp.right t = true) (hty : TyAt (LT B) w t a cap) (hsz : H.length + Tp.size t ≤ 1000000) (ho : o = 0 ∨ o = 1) :
    Calls Try.prog 62 #[.pointer (some ⟨gb, 0, none⟩), tv t a cap, .int .i64 o] w fun e w' => e = .returned (.int .i64 (H.length : Int)) ∧ ∃ v' H' F' l n', Ug.Add H F o t l.length l H' F' ∧ GV B gb (.map (some mb)) v' w' H' ∧ VAt w' mb n' F' ∧ n' ≤ H'.length ∧
      Kp w.heap.size (AdM gb mb v) w w' ∧ ∀ z, v'.ownBlock = some z → w.heap.size ≤ z ∨ v.ownBlock = some z := by
  obtain ⟨k0, n0, m0, hv⟩ := TV.mk t
  rw [tv_of hv]
  obtain ⟨W1, hW1⟩ : ∃ W, (w.alloc (.cells #[.int .i64 k0, .int .i64 n0, .slice a m0 cap] 24)).alloc (.cells #[.int .i64 k0, .int .i64 n0, .slice a m0 cap] 24) = W := ⟨_, rfl⟩
  have hgl : gb < w.heap.size := (Array.getElem?_eq_some_iff.1 h.box).1
  have hml := hm.lt
  have hBw : B ≤ w.heap.size := Nat.le_trans h.lo (Nat.le_of_lt hgl)
  have hk1 : Kp w.heap.size (fun _ => False) w W1 := by rw [← hW1]; exact ((Kp.refl _ _ _).alloc (Nat.le_refl _) _).alloc (by simp) _
  have hx1 : W1.heap[w.heap.size + 1]? = some (.cells #[.int .i64 k0, .int .i64 n0, .slice a m0 cap] 24) := by rw [← hW1]; exact box2 _ _ _ _ _
  have hstart : AdR B gb mb v H F o t w (Tp.size t) (.slice (some ⟨w.heap.size + 1, 0, none⟩) 1 1) 0 [⟨t, a, cap⟩] v n H F W1 := by
    refine ⟨Ug.Add.start hw hc hf ht, ?_, fun e he => ?_, h.same (hk1.block gb hgl (fun h => h)) (fun z hz => ?_), hm.same (hk1.block mb hml (fun h => h)), hn, hk1.mono (Nat.le_refl _) (fun _ _ h => h.elim), fun z hz => .inr hz, by omega⟩
    · have := own_mk (B := w.heap.size) (sz := 3) (n := 1) (cap := 1) hx1 (by omega) (Nat.le_refl _) (by unfold maxLen; omega) rfl
      simp only [rowCells, keCells, List.flatMap_cons, List.flatMap_nil, hv.1, hv.2.1, hv.2.2]
      exact this
    · obtain rfl := List.mem_singleton.1 he
      exact hty.below (hk1.below hBw (fun _ h => h.elim)) (fun _ h => h) (fun _ h => h)
    · obtain ⟨G, _, hown⟩ := h.row
      exact hk1.block z (hown.lt z hz).2 (fun h => h)
  have HST := Lib.hid hstart; have HW1 := Lib.hid hW1; have HGL := Lib.hid hgl; have HML := Lib.hid hml; have HBW := Lib.hid hBw; have HMB := Lib.hid hmB; have HSZ := Lib.hid hsz; have HO := Lib.hid ho; have HLO := Lib.hid h.lo
  obtain ⟨N, hN⟩ : ∃ N, H.length = N := ⟨_, rfl⟩
  rw [hN]
  have HNN := Lib.hid hN
  have hadb : ∀ z, AdM gb mb v z → B ≤ z := fun z hz => by
    rcases hz with rfl | rfl | hz
    · exact h.lo
    · exact hmB
    · obtain ⟨G, _, hown⟩ := h.row; exact (hown.lt z hz).1
  have hcb : w.cell? ⟨gb, 0, none⟩ = some v := cell_box h.box rfl rfl
  have hgl0 : gb < w.heap.size := hgl
  have hvs : ∃ av cv, v = .slice av N cv := by obtain ⟨G, hO, hown⟩ := h.row; rw [← hN, ← hO.len]; exact own_shapeT hown
  obtain ⟨av, cv, rfl⟩ := hvs
  have HADB := Lib.hid hadb; clear hadb
  clear hstart hW1 hgl hml hBw hmB hsz ho hN hk1 hx1 h hm hn hw hc hf ht hty hv
  go_enter Try.func62, Try.ntmps62
  go_upto_region 3 with fail
  rw [HW1.out]
  clear hcb hgl0
  go_wp2_with fail
  go_loopg [8, 9] (Tp.size t) (fun gk v8 v9 wr => ∃ (k : Nat) (ks : List Ke) (v : Value) (n' : Nat) (H' : List GNd) (F' : Ug.Fi), v9 = .int .i64 (k : Int) ∧ AdR B gb mb (.slice av N cv) H F o t w gk v8 k ks v n' H' F' wr)
  case atStart => exact ⟨0, _, _, _, _, _, rfl, HST.out⟩
  case round =>
    obtain ⟨k, ks, v, n', H', F', rfl, hr⟩ := hrel
    obtain ⟨tva, tc, rfl⟩ := own_shapeT hr.row
    obtain ⟨hl1, hl2, hl3⟩ := adr_len hr
    obtain ⟨m, hm⟩ : ∃ m, ks.length = m := ⟨_, rfl⟩
    rw [hm] at hl1 hl2 ⊢
    have hm10 : m ≤ 1000000 := by have := HSZ.out; omega
    have HR := Lib.hid hr; have HM := Lib.hid hm; have HL1 := Lib.hid hl1; have HL3 := Lib.hid hl3; have HM10 := Lib.hid hm10
    clear hr hm hl1 hl3 HST
    by_cases hlt : k < m
    · have hkl : k < ks.length := by rw [HM.out]; exact hlt
      have hvc : ∃ tb, tva = some ⟨tb, 0, none⟩ ∧ w.heap.size ≤ tb ∧ tb < wr.heap.size := by
        rcases HR.out.row.2 with ⟨_, h2⟩ | ⟨g, cp, cur, h1, h2, h3, _⟩
        · omega
        · injection h1 with h1 _ _
          exact ⟨g, h1, h2, (Array.getElem?_eq_some_iff.1 h3).1⟩
      obtain ⟨tb, rfl, htb1, htb2⟩ := hvc
      obtain ⟨x, xa, xc, hxe⟩ : ∃ x xa xc, ks[k] = ⟨x, xa, xc⟩ := ⟨_, _, _, rfl⟩
      obtain ⟨xk, xn, xm, hvx⟩ := TV.mk x
      have hcx : ∀ j, j < 3 → ∀ u, (keCells ⟨x, xa, xc⟩)[j]? = some u → wr.cell? ⟨tb, k * 3 + j, none⟩ = some u := fun j hj u hu => by
        have := HR.out.row.cells (g := tb) rfl (k * 3 + j) u (by rw [rowCells_at ks k hkl j hj, hxe]; exact hu)
        rwa [add_flat, Nat.zero_add] at this
      have x0 : wr.cell? ⟨tb, k * 3, none⟩ = some (.int .i64 xk) := by rw [← hvx.1]; exact hcx 0 (by omega) _ rfl
      have x1 : wr.cell? ⟨tb, k * 3 + 1, none⟩ = some (.int .i64 xn) := by rw [← hvx.2.1]; exact hcx 1 (by omega) _ rfl
      have x2 : wr.cell? ⟨tb, k * 3 + 2, none⟩ = some (.slice xa xm xc) := by rw [← hvx.2.2]; exact hcx 2 (by omega) _ rfl
      obtain ⟨i0, i1⟩ := pt_int hlt
      have HXE := Lib.hid (show ks[k]? = some ⟨x, xa, xc⟩ by rw [List.getElem?_eq_getElem hkl, hxe]); have HVX := Lib.hid hvx; have HTB := Lib.hid (And.intro htb1 htb2)
      clear hxe hvx hcx htb1 htb2
      have hw1 : wrap64 ((N : Int) + (m : Int)) = ((N + m : Nat) : Int) := w64_add (by have := HSZ.out; have := HNN.out; omega) (by have := HM10.out; omega)
      have hw2 : wrap64 ((N : Int) + (k : Int)) = ((N + k : Nat) : Int) := w64_add (by have := HSZ.out; have := HNN.out; omega) (by have := HM10.out; omega)
      go_upto_region 8 with fail
      have hbW : Kp wr.heap.size (fun _ => False) wr ((wr.alloc (.cells #[.int .i64 xk, .int .i64 xn, .slice xa xm xc] 24)).alloc (.cells #[.int .i64 xk, .int .i64 ((N : Int) + (m : Int)), .int .i64 0, .int .i64 ((N : Int) + (k : Int))] 88)) := ((Kp.refl _ _ _).alloc (Nat.le_refl _) _).alloc (by simp) _
      have hbx := box1 wr #[.int .i64 xk, .int .i64 xn, .slice xa xm xc] #[.int .i64 xk, .int .i64 ((N : Int) + (m : Int)), .int .i64 0, .int .i64 ((N : Int) + (k : Int))] 24 88
      have hbn := box2 wr #[.int .i64 xk, .int .i64 xn, .slice xa xm xc] #[.int .i64 xk, .int .i64 ((N : Int) + (m : Int)), .int .i64 0, .int .i64 ((N : Int) + (k : Int))] 24 88
      generalize (wr.alloc (.cells #[.int .i64 xk, .int .i64 xn, .slice xa xm xc] 24)).alloc (.cells #[.int .i64 xk, .int .i64 ((N : Int) + (m : Int)), .int .i64 0, .int .i64 ((N : Int) + (k : Int))] 88) = W2 at hbW hbx hbn ⊢
      have hmem : (⟨x, xa, xc⟩ : Ke) ∈ ks := List.mem_of_getElem? HXE.out
      have hty : TyAt (LT B) wr x xa xc := HR.out.each _ hmem
      obtain ⟨es, hes, hety, hec⟩ := kids_ke x.kids xa hty.2.2.2.2
      have hel : es.length = xm := by rw [← HVX.out.2.2, ← hes, List.length_map]
      have hBr : B ≤ wr.heap.size := Nat.le_trans HBW.out HR.out.keep.size
      have hec2 : es ≠ [] → ∃ b o, xa = some ⟨b, o, none⟩ ∧ ∀ j u, (rowCells es)[j]? = some u → W2.cell? ⟨b, o + j, none⟩ = some u := fun hne => by
        obtain ⟨b, o, h1, h2, h3⟩ := hec (fun e => hne (by rw [e] at hes; exact List.map_eq_nil_iff.1 hes))
        exact ⟨b, o, h1, fun j u hu => (World.cell?_of_block (a := ⟨b, o + j, none⟩) (hbW.block b (by omega) (fun h => h))).trans (h3 j u hu)⟩
      have hrow2 : W2.ownsRow w.heap.size 24 3 (.slice (some ⟨tb, 0, none⟩) m tc) m (rowCells ks) := by
        have h1 := HR.out.row
        rw [HM.out] at h1
        exact own_same h1 (by rintro z ⟨⟩; exact hbW.block tb HTB.out.2 (fun h => h))
      obtain ⟨M2, hM2⟩ : ∃ z, (ks ++ es).length = z := ⟨_, rfl⟩
      have hM2s : M2 ≤ Tp.size t := by
        have h1 := (HR.out.add.size)
        have h2 := Ug.sizes_drop (l := ks.map Ke.t) (k := k) (x := x) (by rw [List.getElem?_map, HXE.out]; rfl)
        have h3 : Tp.size x = Tp.sizes x.kids + 1 := by cases x; rfl
        have h4 := Tp.length_le_sizes x.kids
        have h5 := Tp.length_le_sizes ((ks.map Ke.t).drop (k + 1))
        rw [List.length_drop, List.length_map] at h5
        rw [HVX.out.2.2] at h4
        rw [← hM2, List.length_append, hel]
        omega
      have HES := Lib.hid hes; have HEY := Lib.hid hety; have HEC := Lib.hid hec2; have HEL := Lib.hid hel; have HROW2 := Lib.hid hrow2; have HBW2 := Lib.hid hbW; have HBX2 := Lib.hid hbx; have HBN2 := Lib.hid hbn; have HM2 := Lib.hid hM2; have HM2S := Lib.hid hM2s
      have HNW2 := Lib.hid (show w.heap.size ≤ W2.heap.size from Nat.le_trans HR.out.keep.size hbW.size)
      have HLEN := Lib.hid (show ks.length + es.length ≤ 4 * 1000000 by rw [← List.length_append, hM2]; have := HSZ.out; omega)
      have y2 : W2.cell? ⟨wr.heap.size, 2, none⟩ = some (.slice xa xm xc) := cell_box hbx rfl rfl
      clear hmem hes hety hec hec2 hel hrow2 hbW hbx hbn hM2 hM2s hty hBr x0 x1 x2 i0 i1 hw1 hkl
      have HNE1 := Lib.hid (show wr.heap.size ≠ tb by have := HTB.out.2; omega)
      have HNE2 := Lib.hid (show wr.heap.size + 1 ≠ tb by have := HTB.out.2; omega)
      have hw3 : wrap64 ((N : Int) + (M2 : Int)) = ((N + M2 : Nat) : Int) := w64_add (by have := HSZ.out; have := HNN.out; omega) (by have := HSZ.out; have := HM2S.out; omega)
      go_upto_region 11 with (at_builtin; refine append_types rfl _ _ rfl w.heap.size (.slice (some ⟨tb, 0, none⟩) m tc) m ks es rfl HROW2.out HM.out.symm xa xm xc rfl HEL.out.symm HEC.out HLEN.out HNW2.out ?_; intro v8 w8 hown8 hgr8; rw [HM2.out] at hown8; obtain ⟨a8, c8, rfl⟩ := own_shapeT hown8; have hx8 := grown_other hgr8 HBX2.out HNE1.out; have hn8 := grown_other hgr8 HBN2.out HNE2.out; have q0 : w8.cell? ⟨wr.heap.size, 0, none⟩ = some (.int .i64 xk) := cell_box hx8 rfl rfl; have r2 : w8.cell? ⟨wr.heap.size + 1, 2, none⟩ = some (.int .i64 0) := cell_box hn8 rfl rfl; have fn : w8.frozen? ⟨wr.heap.size + 1, 2, none⟩ = false := IsC.frozen ⟨_, _, hn8⟩; have HX8 := Lib.hid hx8; have HN8 := Lib.hid hn8; have HOWN8 := Lib.hid hown8; have HGR8 := Lib.hid hgr8; clear hx8 hn8 hown8 hgr8 y2)
      have hbn9 : (w8.setCell ⟨wr.heap.size + 1, 2, none⟩ (.int .i64 ((N : Int) + (M2 : Int)))).heap[wr.heap.size + 1]? = some (.cells #[.int .i64 xk, .int .i64 ((N : Int) + (m : Int)), .int .i64 ((N : Int) + (M2 : Int)), .int .i64 ((N : Int) + (k : Int))] 88) := set_box HN8.out rfl
      have hf9 : ∀ z, z ≠ wr.heap.size + 1 → z ≠ tb → ∀ o, wr.heap[z]? = some o → (w8.setCell ⟨wr.heap.size + 1, 2, none⟩ (.int .i64 ((N : Int) + (M2 : Int)))).heap[z]? = some o := fun z h1 h2 o ho =>
        (Below.heap_setCell _ _ _ _ h1).trans (grown_other HGR8.out (HBW2.out.heap ho (Array.getElem?_eq_some_iff.1 ho).1 (fun h => h)) h2)
      have hrow9 : (w8.setCell ⟨wr.heap.size + 1, 2, none⟩ (.int .i64 ((N : Int) + (M2 : Int)))).ownsRow w.heap.size 24 3 (.slice a8 M2 c8) M2 (rowCells (ks ++ es)) :=
        own_same HOWN8.out (fun z hz => Below.heap_setCell _ _ _ _ (fun (e : z = wr.heap.size + 1) => own_ne HOWN8.out HN8.out (by decide) (e ▸ hz)))
      have hx9 : (w8.setCell ⟨wr.heap.size + 1, 2, none⟩ (.int .i64 ((N : Int) + (M2 : Int)))).heap[wr.heap.size]? = some (.cells #[.int .i64 xk, .int .i64 xn, .slice xa xm xc] 24) := (Below.heap_setCell _ _ _ _ (Nat.ne_of_lt (Nat.lt_succ_self _))).trans HX8.out
      have hk9 : Kp w.heap.size (AdM gb mb (.slice av N cv)) w (w8.setCell ⟨wr.heap.size + 1, 2, none⟩ (.int .i64 ((N : Int) + (M2 : Int)))) :=
        (((HR.out.keep.trans (HBW2.out.mono HR.out.keep.size (fun _ _ h => h.elim))).grown HGR8.out HNW2.out (by rintro z ⟨⟩; exact .inl HTB.out.1))).setCell (.inl (Nat.le_trans HR.out.keep.size (Nat.le_succ _))) _
      generalize w8.setCell ⟨wr.heap.size + 1, 2, none⟩ (.int .i64 ((N : Int) + (M2 : Int))) = W9 at hbn9 hf9 hrow9 hk9 hx9 ⊢
      have hgw : gb < wr.heap.size := Nat.lt_of_lt_of_le HGL.out HR.out.keep.size
      have hne9 : ∀ z A, wr.heap[z]? = some (.cells A 88) → z ≠ tb := fun z A h e => by
        have h1 := HR.out.row
        rw [HM.out] at h1
        rw [e] at h
        exact own_ne h1 h (by decide) rfl
      have hgv9 : GV B gb (.map (some mb)) v W9 H' := by
        refine HR.out.gv.same ((hf9 gb (by omega) (by have := HTB.out.1; have := HGL.out; omega) _ HR.out.gv.box).trans HR.out.gv.box.symm) (fun z hz => ?_)
        obtain ⟨G, _, hown⟩ := HR.out.gv.row
        obtain ⟨h1, A, hA⟩ := own_block hown hz
        exact (hf9 z (by omega) (hne9 z A hA) _ hA).trans hA.symm
      have hv9 : VAt W9 mb n' F' := by
        obtain ⟨om, ho, _⟩ := vat_block HR.out.vat
        have h1 := HML.out; have h2 := HR.out.keep.size; have h3 := HTB.out.1
        exact HR.out.vat.same ((hf9 mb (by omega) (by omega) _ ho).trans ho.symm)
      have HBN9 := Lib.hid hbn9; have HBX9 := Lib.hid hx9; have HROW9 := Lib.hid hrow9; have HK9 := Lib.hid hk9; have HGV9 := Lib.hid hgv9; have HV9 := Lib.hid hv9
      have HNK := Lib.hid (show N + k ≤ 4 * 1000000 by have := HSZ.out; have := HNN.out; have := HM10.out; omega)
      clear hbn9 hf9 hrow9 hk9 hgw hne9 hgv9 hv9 hx9 q0 r2 fn hw3 HROW2 HEC HLEN HNW2 HGR8 HOWN8 HX8 HN8 HBW2 HBX2 HBN2 HNE1 HNE2
      have HGK := Lib.hid HR.out.gk; have HVOWN := Lib.hid HR.out.vown
      have HNX' := Lib.hid (show ((ks.map Ke.t)[k]? = some x ∧ N + m = H.length + (ks.map Ke.t).length ∧ N + M2 = H.length + (ks.map Ke.t).length + x.kids.length ∧ N + k = H'.length) by
        refine ⟨by rw [List.getElem?_map, HXE.out]; rfl, by rw [List.length_map, HM.out, HNN.out], ?_, by rw [HL3.out, HNN.out]⟩
        rw [List.length_map, HM.out, HNN.out, HVX.out.2.2, ← HM2.out, List.length_append, HM.out, HEL.out]; omega)
      by_cases h5 : xk = 5
      · have g5 : (xk == 5) = true := by simp [h5]
        have H5 := Lib.hid h5
        have n0 : W9.cell? ⟨wr.heap.size + 1, 0, none⟩ = some (.int .i64 xk) := cell_box HBN9.out rfl rfl
        have fn : W9.frozen? ⟨wr.heap.size + 1, 0, none⟩ = false := IsC.frozen ⟨_, _, HBN9.out⟩
        clear h5
        go_upto_region 15 with fail
        have hbx : (W9.setCell ⟨wr.heap.size + 1, 0, none⟩ (.int .i64 6)).heap[wr.heap.size + 1]? = some (.cells #[.int .i64 6, .int .i64 ((N : Int) + (m : Int)), .int .i64 ((N : Int) + (M2 : Int)), .int .i64 ((N : Int) + (k : Int))] 88) := set_box HBN9.out rfl
        have hrx := arm_row HROW9.out HBN9.out (.int .i64 6) 0
        have hgx := arm_gv HGV9.out (Nat.lt_of_lt_of_le HGL.out HR.out.keep.size) (arm_low HR.out.gv) (.int .i64 6) 0
        have hvx := arm_vat HV9.out HBN9.out (.int .i64 6) 0
        have hkx := HK9.out.setCell (p := ⟨wr.heap.size + 1, 0, none⟩) (.inl (Nat.le_trans HR.out.keep.size (Nat.le_succ _))) (.int .i64 6)
        clear n0 fn
        generalize W9.setCell ⟨wr.heap.size + 1, 0, none⟩ (.int .i64 6) = WX at hbx hrx hgx hvx hkx ⊢
        have HBX := Lib.hid hbx; have HROWX := Lib.hid hrx; have HGX := Lib.hid hgx; have HVX2 := Lib.hid hvx; have HKX := Lib.hid hkx
        clear hbx hrx hgx hvx hkx
        obtain ⟨G, hO, hnown⟩ := HGX.out.row
        obtain ⟨va, vc, rfl⟩ := own_shapeT hnown
        have hGL : G.length = N + k := hO.len.trans (by rw [HL3.out, HNN.out])
        rw [hGL] at hnown
        have hbgb : WX.heap[gb]? = some (.cells #[.slice va (N + k) vc, .map (some mb)] 62) := by have := HGX.out.box; rw [hGL] at this; exact this
        have cgb : WX.cell? ⟨gb, 0, none⟩ = some (.slice va (N + k) vc) := cell_box hbgb rfl rfl
        have e0 : WX.cell? ⟨wr.heap.size + 1, 0, none⟩ = some (.int .i64 6) := cell_box HBX.out rfl rfl
        have e1 : WX.cell? ⟨wr.heap.size + 1, 1, none⟩ = some (.int .i64 ((N : Int) + (m : Int))) := cell_box HBX.out rfl rfl
        have e2 : WX.cell? ⟨wr.heap.size + 1, 2, none⟩ = some (.int .i64 ((N : Int) + (M2 : Int))) := cell_box HBX.out rfl rfl
        have e3 : WX.cell? ⟨wr.heap.size + 1, 3, none⟩ = some (.int .i64 ((N : Int) + (k : Int))) := cell_box HBX.out rfl rfl
        have hgb2 : gb < WX.heap.size := (Array.getElem?_eq_some_iff.1 hbgb).1
        have hnb2 : wr.heap.size + 1 < WX.heap.size := (Array.getElem?_eq_some_iff.1 HBX.out).1
        obtain ⟨i9, hi, hz0, hz1, hz2⟩ := info_parts info_nd
        obtain ⟨b1, b2⟩ := b32u (r := N + k) HNK.out
        have B1 := Lib.hid b1; have B2 := Lib.hid b2
        have HNOWN := Lib.hid hnown; have HOO := Lib.hid hO; have HGLN := Lib.hid hGL; have HBGB := Lib.hid hbgb
        have HVO := Lib.hid (show ∀ z, (Value.slice va (N + k) vc).ownBlock = some z → w.heap.size ≤ z ∨ (Value.slice av N cv).ownBlock = some z by have := HVOWN.out; rw [hGL] at this; exact this)
        have HNX := Lib.hid (show B ≤ WX.heap.size from Nat.le_trans HBW.out HKX.out.size)
        clear b1 b2 hnown hO hGL hbgb
        go_region_law (first | (refine step_append_lies _ ?_ (.tmp 68) (.tmp 70) 60 ?_ B 88 i9 (.agg #[.int .i64 0, .int .i64 0, .int .i64 0, .int .i64 0]) 4 32 Try.underlying60 hi hz0 hz1 hz2 ?_ ?_ (.slice va (N + k) vc) (N + k) (Ug.ndRow G) ?_ ?_ ⟨WX.heap.size, 0, none⟩ 1 1 [.int .i64 6, .int .i64 ((N : Int) + (m : Int)), .int .i64 ((N : Int) + (M2 : Int)), .int .i64 ((N : Int) + (k : Int))] ?_ ?_ ?_ ?_ ?_ ?_ ?_ ?_ (WX.heap.size + 1) ?_ ?_; (· rfl); (· rfl); (· rfl); (· decide); (· rfl); (· exact HNOWN.out.alloc _); (· rfl); (· rfl); (· exact World.news_of_block (World.alloc_heap_new WX _)); (· exact four_ints _ _ _ _); (· decide); (· exact B2.out); (· exact B1.out); (· exact Nat.le_trans HNX.out (by simp)); (· simp); intro g1 cap1 w7 own1 gr1 ly1 lt1; (have gr1' := undrew gr1); (have hgb7 : w7.heap[gb]? = some (.cells #[.slice va (N + k) vc, .map (some mb)] 62) := (gr1'.block gb (by rw [World.size_alloc]; omega) (fun e => gv_far HNOWN.out HBGB.out graph_no e.symm)).trans ((Below.heap_alloc _ _ _ hgb2).trans HBGB.out)); (have cgb7 : w7.cell? ⟨gb, 0, none⟩ = some (.slice va (N + k) vc) := cell_box hgb7 rfl rfl); (have fgb7 : w7.frozen? ⟨gb, 0, none⟩ = false := IsC.frozen ⟨_, _, hgb7⟩); (have HGR7 := Lib.hid gr1'); (have HOWN7 := Lib.hid own1); (have HGB7 := Lib.hid hgb7); (have HLY := Lib.hid ly1); clear gr1 gr1' own1 hgb7 ly1 lt1))
        all_goals
          have HF8 := Lib.hid (add_far (gb := gb) (v' := .slice (some ⟨g1, 0, none⟩) (N + k + 1) cap1) HGR7.out HNOWN.out)
          have hrow7 := own_same (w' := w7.setCell ⟨gb, 0, none⟩ (.slice (some ⟨g1, 0, none⟩) (N + k + 1) cap1)) HROWX.out (fun z hz => by
            obtain ⟨hz2, A, hzA⟩ := own_block HROWX.out hz
            exact HF8.out z _ hzA (fun A h => by injection h with _ h; exact absurd h (by decide)) (fun (e : z = gb) => own_ne HROWX.out HBGB.out (by decide) (e ▸ hz)))
          have hkp7 : Kp w.heap.size (AdM gb mb (.slice av N cv)) w (w7.setCell ⟨gb, 0, none⟩ (.slice (some ⟨g1, 0, none⟩) (N + k + 1) cap1)) :=
            ((HKX.out.alloc HKX.out.size _).grown HGR7.out (Nat.le_trans HKX.out.size (by simp)) (fun z hz => (HVO.out z hz).elim .inl fun h => .inr (.inr (.inr h)))).setCell (.inr (.inl rfl)) _
          have hgv7 := gv_put (d := ⟨6, N + m, N + M2, N + k⟩) HGB7.out HLO.out (HOO.out.snoc_own HGLN.out.symm) (by rw [HGLN.out]; simpa [Ug.ndCells] using HOWN7.out)
          obtain ⟨o7, ho7, hm7⟩ := vat_block HVX2.out
          have hvat7 := HVX2.out.same (HF8.out mb _ ho7 (fun A => hm7 A _) (fun (e : mb = gb) => by rw [e, HBGB.out] at ho7; injection ho7 with ho7; exact hm7 _ _ ho7.symm))
          have HROW8 := Lib.hid hrow7; have HKP8 := Lib.hid hkp7; have HGV8 := Lib.hid hgv7; have HVAT8 := Lib.hid hvat7
          clear hrow7 hkp7 hgv7 hvat7 e0 e1 e2 e3 cgb hgb2 hnb2 hi hz0 hz1 hz2 ho7 hm7 cgb7 fgb7
          go_wp2_with fail
          go_roundg (gk - 1)
          case measure => exact gk_less HGK.out HL1.out hlt
          case rel =>
            refine ⟨k + 1, ks ++ es, _, n', _, F', by rw [Int.natCast_add]; rfl, ⟨?_, by rw [HM2.out]; exact HROW8.out, fun e he => ?_, HGV8.out, HVAT8.out, ?_, HKP8.out, fun z hz => ?_, gk_next HGK.out HL1.out hlt⟩⟩
            · rw [List.map_append, HES.out]
              exact HR.out.add.step ⟨HNX'.out.1, HNX'.out.2.1, HNX'.out.2.2.1, (by rw [HVX.out.1, if_pos H5.out]), .inr (.inr ⟨by rw [HVX.out.1, H5.out]; decide, HNX'.out.2.2.2, rfl⟩)⟩
            · refine ty_same (kp_two HR.out.keep HKP8.out HBW.out HADB.out) (fun _ h => h) ?_
              exact (List.mem_append.1 he).elim (HR.out.each e) (HEY.out e)
            · have := HR.out.nl; rw [List.length_append, List.length_singleton]; omega
            · injection hz with hz
              dsimp only at hz
              subst hz
              rcases HLY.out with h9 | h9
              · exact HVO.out _ h9
              · exact .inl (by have := HKX.out.size; omega)
      · by_cases h6 : xk = 6
        · have g5 : (xk == 5) = false := by simp [h5]
          have g6 : (xk == 6) = true := by simp [h6]
          have H5 := Lib.hid h5; have H6 := Lib.hid h6
          clear h5 h6
          have hgm : gb ≠ mb := fun e => by obtain ⟨om, ho, hn⟩ := vat_block HV9.out; rw [← e, HGV9.out.box] at ho; injection ho with ho; exact hn _ _ ho.symm
          have hmn : mb ≠ wr.heap.size + 1 := fun e => by obtain ⟨om, ho, hn⟩ := vat_block HV9.out; rw [e, HBN9.out] at ho; injection ho with ho; exact hn _ _ ho.symm
          have hoI : I64 o := by rcases HO.out with rfl | rfl <;> exact i64_small (by decide) (by decide)
          have hxI : I64 xn := by
            have h1 := HR.out.add.right x (List.mem_of_getElem? HNX'.out.1)
            have h2 : 0 ≤ x.num ∧ x.num ≤ 1048576 := by cases x; exact ⟨(Tp.right_node h1).2.2.1, (Tp.right_node h1).2.2.2.1⟩
            rw [HVX.out.2.1] at h2
            exact i64_small h2.1 h2.2
          have hnl : n' ≤ 4 * 1000000 := by have h1 := HR.out.nl; rw [← HNX'.out.2.2.2] at h1; exact Nat.le_trans h1 HNK.out
          have q1 : W9.cell? ⟨wr.heap.size, 1, none⟩ = some (.int .i64 xn) := cell_box HBX9.out rfl rfl
          have n3 : W9.cell? ⟨wr.heap.size + 1, 3, none⟩ = some (.int .i64 ((N : Int) + (k : Int))) := cell_box HBN9.out rfl rfl
          have hnb9 : wr.heap.size + 1 < W9.heap.size := (Array.getElem?_eq_some_iff.1 HBN9.out).1
          have hg9 : gb < W9.heap.size := (Array.getElem?_eq_some_iff.1 HGV9.out.box).1
          have HNB9 := Lib.hid hnb9; have HG9 := Lib.hid hg9; have HGM := Lib.hid hgm; have HMN := Lib.hid hmn
          clear hnb9 hg9 hgm hmn
          cases hF : F' o xn with
          | some p =>
            have hcall := firstOf_old gb mb n' v F' o xn (N + k) p W9 HGV9.out.box HV9.out hnl hoI hxI HNK.out hF
            simp only [Int.natCast_add] at hcall
            have hpl := HR.out.add.fv o xn p hF
            obtain ⟨pe, hpe⟩ : ∃ e, H'[p]? = some e := ⟨_, List.getElem?_eq_getElem hpl⟩
            have HCALL := Lib.hid hcall; have HF := Lib.hid hF; have HPE := Lib.hid hpe
            clear hcall hpl hpe hF hoI hxI hnl
            go_upto_region 15 with (go_at_call 76; refine HCALL.out.mono ?_; clear q1 n3; rintro e w10 ⟨rfl, hv10, hk10⟩; have hn10 := hk10.heap HBN9.out HNB9.out (fun h => h); have n3 : w10.cell? ⟨wr.heap.size + 1, 3, none⟩ = some (.int .i64 ((N : Int) + (k : Int))) := cell_box hn10 rfl rfl; have fn : w10.frozen? ⟨wr.heap.size + 1, 3, none⟩ = false := IsC.frozen ⟨_, _, hn10⟩; have HV10 := Lib.hid hv10; have HK10 := Lib.hid hk10; have HN10 := Lib.hid hn10; clear hv10 hk10 hn10)
            have hrow10 : w10.ownsRow w.heap.size 24 3 (.slice a8 M2 c8) M2 (rowCells (ks ++ es)) := own_same HROW9.out (fun z hz => HK10.out.block z (own_block HROW9.out hz).1 (fun h => h))
            have hgv10 : GV B gb (.map (some mb)) v w10 H' := HGV9.out.same (HK10.out.block gb HG9.out (fun h => h)) (fun z hz => HK10.out.block z (arm_low HGV9.out z hz) (fun h => h))
            have hbx : (w10.setCell ⟨wr.heap.size + 1, 3, none⟩ (.int .i64 (p : Int))).heap[wr.heap.size + 1]? = some (.cells #[.int .i64 xk, .int .i64 ((N : Int) + (m : Int)), .int .i64 ((N : Int) + (M2 : Int)), .int .i64 (p : Int)] 88) := set_box HN10.out rfl
            have hrx := arm_row hrow10 HN10.out (.int .i64 (p : Int)) 3
            have hgx := arm_gv hgv10 (Nat.lt_of_lt_of_le HGL.out HR.out.keep.size) (arm_low HR.out.gv) (.int .i64 (p : Int)) 3
            have hvx := arm_vat HV10.out HN10.out (.int .i64 (p : Int)) 3
            have hkx := (HK9.out.trans (HK10.out.mono HK9.out.size (fun _ _ h => h.elim))).setCell (p := ⟨wr.heap.size + 1, 3, none⟩) (.inl (Nat.le_trans HR.out.keep.size (Nat.le_succ _))) (.int .i64 (p : Int))
            clear n3 fn hrow10 hgv10
            generalize w10.setCell ⟨wr.heap.size + 1, 3, none⟩ (.int .i64 (p : Int)) = WX at hbx hrx hgx hvx hkx ⊢
            have HBX := Lib.hid hbx; have HROWX := Lib.hid hrx; have HGX := Lib.hid hgx; have HVX2 := Lib.hid hvx; have HKX := Lib.hid hkx
            clear hbx hrx hgx hvx hkx
            obtain ⟨G, hO, hnown⟩ := HGX.out.row
            obtain ⟨va, vc, rfl⟩ := own_shapeT hnown
            have hGL : G.length = N + k := hO.len.trans (by rw [HL3.out, HNN.out])
            rw [hGL] at hnown
            have hbgb : WX.heap[gb]? = some (.cells #[.slice va (N + k) vc, .map (some mb)] 62) := by have := HGX.out.box; rw [hGL] at this; exact this
            have cgb : WX.cell? ⟨gb, 0, none⟩ = some (.slice va (N + k) vc) := cell_box hbgb rfl rfl
            have e0 : WX.cell? ⟨wr.heap.size + 1, 0, none⟩ = some (.int .i64 xk) := cell_box HBX.out rfl rfl
            have e1 : WX.cell? ⟨wr.heap.size + 1, 1, none⟩ = some (.int .i64 ((N : Int) + (m : Int))) := cell_box HBX.out rfl rfl
            have e2 : WX.cell? ⟨wr.heap.size + 1, 2, none⟩ = some (.int .i64 ((N : Int) + (M2 : Int))) := cell_box HBX.out rfl rfl
            have e3 : WX.cell? ⟨wr.heap.size + 1, 3, none⟩ = some (.int .i64 (p : Int)) := cell_box HBX.out rfl rfl
            have hgb2 : gb < WX.heap.size := (Array.getElem?_eq_some_iff.1 hbgb).1
            have hnb2 : wr.heap.size + 1 < WX.heap.size := (Array.getElem?_eq_some_iff.1 HBX.out).1
            obtain ⟨i9, hi, hz0, hz1, hz2⟩ := info_parts info_nd
            obtain ⟨b1, b2⟩ := b32u (r := N + k) HNK.out
            have B1 := Lib.hid b1; have B2 := Lib.hid b2
            have HNOWN := Lib.hid hnown; have HOO := Lib.hid hO; have HGLN := Lib.hid hGL; have HBGB := Lib.hid hbgb
            have HVO := Lib.hid (show ∀ z, (Value.slice va (N + k) vc).ownBlock = some z → w.heap.size ≤ z ∨ (Value.slice av N cv).ownBlock = some z by have := HVOWN.out; rw [hGL] at this; exact this)
            have HNX := Lib.hid (show B ≤ WX.heap.size from Nat.le_trans HBW.out HKX.out.size)
            clear b1 b2 hnown hO hGL hbgb
            go_region_law (first | (refine step_append_lies _ ?_ (.tmp 68) (.tmp 70) 60 ?_ B 88 i9 (.agg #[.int .i64 0, .int .i64 0, .int .i64 0, .int .i64 0]) 4 32 Try.underlying60 hi hz0 hz1 hz2 ?_ ?_ (.slice va (N + k) vc) (N + k) (Ug.ndRow G) ?_ ?_ ⟨WX.heap.size, 0, none⟩ 1 1 [.int .i64 xk, .int .i64 ((N : Int) + (m : Int)), .int .i64 ((N : Int) + (M2 : Int)), .int .i64 (p : Int)] ?_ ?_ ?_ ?_ ?_ ?_ ?_ ?_ (WX.heap.size + 1) ?_ ?_; (· rfl); (· rfl); (· rfl); (· decide); (· rfl); (· exact HNOWN.out.alloc _); (· rfl); (· rfl); (· exact World.news_of_block (World.alloc_heap_new WX _)); (· exact four_ints _ _ _ _); (· decide); (· exact B2.out); (· exact B1.out); (· exact Nat.le_trans HNX.out (by simp)); (· simp); intro g1 cap1 w7 own1 gr1 ly1 lt1; (have gr1' := undrew gr1); (have hgb7 : w7.heap[gb]? = some (.cells #[.slice va (N + k) vc, .map (some mb)] 62) := (gr1'.block gb (by rw [World.size_alloc]; omega) (fun e => gv_far HNOWN.out HBGB.out graph_no e.symm)).trans ((Below.heap_alloc _ _ _ hgb2).trans HBGB.out)); (have cgb7 : w7.cell? ⟨gb, 0, none⟩ = some (.slice va (N + k) vc) := cell_box hgb7 rfl rfl); (have fgb7 : w7.frozen? ⟨gb, 0, none⟩ = false := IsC.frozen ⟨_, _, hgb7⟩); (have HGR7 := Lib.hid gr1'); (have HOWN7 := Lib.hid own1); (have HGB7 := Lib.hid hgb7); (have HLY := Lib.hid ly1); clear gr1 gr1' own1 hgb7 ly1 lt1))
            all_goals
              have HF8 := Lib.hid (add_far (gb := gb) (v' := .slice (some ⟨g1, 0, none⟩) (N + k + 1) cap1) HGR7.out HNOWN.out)
              have hrow7 := own_same (w' := w7.setCell ⟨gb, 0, none⟩ (.slice (some ⟨g1, 0, none⟩) (N + k + 1) cap1)) HROWX.out (fun z hz => by
                obtain ⟨hz2, A, hzA⟩ := own_block HROWX.out hz
                exact HF8.out z _ hzA (fun A h => by injection h with _ h; exact absurd h (by decide)) (fun (e : z = gb) => own_ne HROWX.out HBGB.out (by decide) (e ▸ hz)))
              have hkp7 : Kp w.heap.size (AdM gb mb (.slice av N cv)) w (w7.setCell ⟨gb, 0, none⟩ (.slice (some ⟨g1, 0, none⟩) (N + k + 1) cap1)) :=
                ((HKX.out.alloc HKX.out.size _).grown HGR7.out (Nat.le_trans HKX.out.size (by simp)) (fun z hz => (HVO.out z hz).elim .inl fun h => .inr (.inr (.inr h)))).setCell (.inr (.inl rfl)) _
              have hgv7 := gv_put (d := ⟨xk, N + m, N + M2, p⟩) HGB7.out HLO.out (HOO.out.snoc_up HPE.out rfl) (by rw [HGLN.out]; simpa [Ug.ndCells] using HOWN7.out)
              obtain ⟨o7, ho7, hm7⟩ := vat_block HVX2.out
              have hvat7 := HVX2.out.same (HF8.out mb _ ho7 (fun A => hm7 A _) (fun (e : mb = gb) => by rw [e, HBGB.out] at ho7; injection ho7 with ho7; exact hm7 _ _ ho7.symm))
              have HROW8 := Lib.hid hrow7; have HKP8 := Lib.hid hkp7; have HGV8 := Lib.hid hgv7; have HVAT8 := Lib.hid hvat7
              clear hrow7 hkp7 hgv7 hvat7 e0 e1 e2 e3 cgb hgb2 hnb2 hi hz0 hz1 hz2 ho7 hm7 cgb7 fgb7
              go_wp2_with fail
              go_roundg (gk - 1)
              case measure => exact gk_less HGK.out HL1.out hlt
              case rel =>
                refine ⟨k + 1, ks ++ es, _, n', _, F', by rw [Int.natCast_add]; rfl, ⟨?_, by rw [HM2.out]; exact HROW8.out, fun e he => ?_, HGV8.out, HVAT8.out, ?_, HKP8.out, fun z hz => ?_, gk_next HGK.out HL1.out hlt⟩⟩
                · rw [List.map_append, HES.out]
                  exact HR.out.add.step ⟨HNX'.out.1, HNX'.out.2.1, HNX'.out.2.2.1, (by rw [HVX.out.1, if_neg H5.out]), .inl ⟨HVX.out.1.trans H6.out, p, pe, by rw [HVX.out.2.1]; exact HF.out, HPE.out, rfl, rfl⟩⟩
                · refine ty_same (kp_two HR.out.keep HKP8.out HBW.out HADB.out) (fun _ h => h) ?_
                  exact (List.mem_append.1 he).elim (HR.out.each e) (HEY.out e)
                · have := HR.out.nl; rw [List.length_append, List.length_singleton]; omega
                · injection hz with hz
                  dsimp only at hz
                  subst hz
                  rcases HLY.out with h9 | h9
                  · exact HVO.out _ h9
                  · exact .inl (by have := HKX.out.size; omega)
          | none =>
            have hcall := firstOf_new gb mb n' v F' o xn (N + k) W9 HGV9.out.box HV9.out hnl hoI hxI HNK.out hF
            simp only [Int.natCast_add] at hcall
            have HCALL := Lib.hid hcall; have HF := Lib.hid hF
            clear hcall hF hoI hxI hnl
            go_upto_region 15 with (go_at_call 76; refine HCALL.out.mono ?_; clear q1 n3; rintro e w10 ⟨rfl, hv10, hk10⟩; have hn10 := hk10.heap HBN9.out HNB9.out (fun h => HMN.out h.symm); have n3 : w10.cell? ⟨wr.heap.size + 1, 3, none⟩ = some (.int .i64 ((N : Int) + (k : Int))) := cell_box hn10 rfl rfl; have fn : w10.frozen? ⟨wr.heap.size + 1, 3, none⟩ = false := IsC.frozen ⟨_, _, hn10⟩; have HV10 := Lib.hid hv10; have HK10 := Lib.hid hk10; have HN10 := Lib.hid hn10; clear hv10 hk10 hn10)
            have hnm : ∀ z A e, W9.heap[z]? = some (.cells A e) → z ≠ mb := fun z A e h x => by obtain ⟨om, ho, hn⟩ := vat_block HV9.out; rw [← x, h] at ho; injection ho with ho; exact hn _ _ ho.symm
            have hrow10 : w10.ownsRow w.heap.size 24 3 (.slice a8 M2 c8) M2 (rowCells (ks ++ es)) := own_same HROW9.out (fun z hz => by obtain ⟨h1, A, h2⟩ := own_block HROW9.out hz; exact HK10.out.block z h1 (hnm z A _ h2))
            have hgv10 : GV B gb (.map (some mb)) v w10 H' := HGV9.out.same (HK10.out.block gb HG9.out HGM.out) (fun z hz => by obtain ⟨G, _, hown⟩ := HGV9.out.row; obtain ⟨h1, A, h2⟩ := own_block hown hz; exact HK10.out.block z h1 (hnm z A _ h2))
            have hbx : (w10.setCell ⟨wr.heap.size + 1, 3, none⟩ (.int .i64 ((N : Int) + (k : Int)))).heap[wr.heap.size + 1]? = some (.cells #[.int .i64 xk, .int .i64 ((N : Int) + (m : Int)), .int .i64 ((N : Int) + (M2 : Int)), .int .i64 ((N : Int) + (k : Int))] 88) := set_box HN10.out rfl
            have hrx := arm_row hrow10 HN10.out (.int .i64 ((N : Int) + (k : Int))) 3
            have hgx := arm_gv hgv10 (Nat.lt_of_lt_of_le HGL.out HR.out.keep.size) (arm_low HR.out.gv) (.int .i64 ((N : Int) + (k : Int))) 3
            have hvx := arm_vat HV10.out HN10.out (.int .i64 ((N : Int) + (k : Int))) 3
            have hkx := (HK9.out.trans (HK10.out.mono (M' := AdM gb mb (.slice av N cv)) HK9.out.size (fun z _ h => .inr (.inl h)))).setCell (p := ⟨wr.heap.size + 1, 3, none⟩) (.inl (Nat.le_trans HR.out.keep.size (Nat.le_succ _))) (.int .i64 ((N : Int) + (k : Int)))
            clear n3 fn hrow10 hgv10 hnm
            generalize w10.setCell ⟨wr.heap.size + 1, 3, none⟩ (.int .i64 ((N : Int) + (k : Int))) = WX at hbx hrx hgx hvx hkx ⊢
            have HBX := Lib.hid hbx; have HROWX := Lib.hid hrx; have HGX := Lib.hid hgx; have HVX2 := Lib.hid hvx; have HKX := Lib.hid hkx
            clear hbx hrx hgx hvx hkx
            obtain ⟨G, hO, hnown⟩ := HGX.out.row
            obtain ⟨va, vc, rfl⟩ := own_shapeT hnown
            have hGL : G.length = N + k := hO.len.trans (by rw [HL3.out, HNN.out])
            rw [hGL] at hnown
            have hbgb : WX.heap[gb]? = some (.cells #[.slice va (N + k) vc, .map (some mb)] 62) := by have := HGX.out.box; rw [hGL] at this; exact this
            have cgb : WX.cell? ⟨gb, 0, none⟩ = some (.slice va (N + k) vc) := cell_box hbgb rfl rfl
            have e0 : WX.cell? ⟨wr.heap.size + 1, 0, none⟩ = some (.int .i64 xk) := cell_box HBX.out rfl rfl
            have e1 : WX.cell? ⟨wr.heap.size + 1, 1, none⟩ = some (.int .i64 ((N : Int) + (m : Int))) := cell_box HBX.out rfl rfl
            have e2 : WX.cell? ⟨wr.heap.size + 1, 2, none⟩ = some (.int .i64 ((N : Int) + (M2 : Int))) := cell_box HBX.out rfl rfl
            have e3 : WX.cell? ⟨wr.heap.size + 1, 3, none⟩ = some (.int .i64 ((N : Int) + (k : Int))) := cell_box HBX.out rfl rfl
            have hgb2 : gb < WX.heap.size := (Array.getElem?_eq_some_iff.1 hbgb).1
            have hnb2 : wr.heap.size + 1 < WX.heap.size := (Array.getElem?_eq_some_iff.1 HBX.out).1
            obtain ⟨i9, hi, hz0, hz1, hz2⟩ := info_parts info_nd
            obtain ⟨b1, b2⟩ := b32u (r := N + k) HNK.out
            have B1 := Lib.hid b1; have B2 := Lib.hid b2
            have HNOWN := Lib.hid hnown; have HOO := Lib.hid hO; have HGLN := Lib.hid hGL; have HBGB := Lib.hid hbgb
            have HVO := Lib.hid (show ∀ z, (Value.slice va (N + k) vc).ownBlock = some z → w.heap.size ≤ z ∨ (Value.slice av N cv).ownBlock = some z by have := HVOWN.out; rw [hGL] at this; exact this)
            have HNX := Lib.hid (show B ≤ WX.heap.size from Nat.le_trans HBW.out HKX.out.size)
            clear b1 b2 hnown hO hGL hbgb
            go_region_law (first | (refine step_append_lies _ ?_ (.tmp 68) (.tmp 70) 60 ?_ B 88 i9 (.agg #[.int .i64 0, .int .i64 0, .int .i64 0, .int .i64 0]) 4 32 Try.underlying60 hi hz0 hz1 hz2 ?_ ?_ (.slice va (N + k) vc) (N + k) (Ug.ndRow G) ?_ ?_ ⟨WX.heap.size, 0, none⟩ 1 1 [.int .i64 xk, .int .i64 ((N : Int) + (m : Int)), .int .i64 ((N : Int) + (M2 : Int)), .int .i64 ((N : Int) + (k : Int))] ?_ ?_ ?_ ?_ ?_ ?_ ?_ ?_ (WX.heap.size + 1) ?_ ?_; (· rfl); (· rfl); (· rfl); (· decide); (· rfl); (· exact HNOWN.out.alloc _); (· rfl); (· rfl); (· exact World.news_of_block (World.alloc_heap_new WX _)); (· exact four_ints _ _ _ _); (· decide); (· exact B2.out); (· exact B1.out); (· exact Nat.le_trans HNX.out (by simp)); (· simp); intro g1 cap1 w7 own1 gr1 ly1 lt1; (have gr1' := undrew gr1); (have hgb7 : w7.heap[gb]? = some (.cells #[.slice va (N + k) vc, .map (some mb)] 62) := (gr1'.block gb (by rw [World.size_alloc]; omega) (fun e => gv_far HNOWN.out HBGB.out graph_no e.symm)).trans ((Below.heap_alloc _ _ _ hgb2).trans HBGB.out)); (have cgb7 : w7.cell? ⟨gb, 0, none⟩ = some (.slice va (N + k) vc) := cell_box hgb7 rfl rfl); (have fgb7 : w7.frozen? ⟨gb, 0, none⟩ = false := IsC.frozen ⟨_, _, hgb7⟩); (have HGR7 := Lib.hid gr1'); (have HOWN7 := Lib.hid own1); (have HGB7 := Lib.hid hgb7); (have HLY := Lib.hid ly1); clear gr1 gr1' own1 hgb7 ly1 lt1))
            all_goals
              have HF8 := Lib.hid (add_far (gb := gb) (v' := .slice (some ⟨g1, 0, none⟩) (N + k + 1) cap1) HGR7.out HNOWN.out)
              have hrow7 := own_same (w' := w7.setCell ⟨gb, 0, none⟩ (.slice (some ⟨g1, 0, none⟩) (N + k + 1) cap1)) HROWX.out (fun z hz => by
                obtain ⟨hz2, A, hzA⟩ := own_block HROWX.out hz
                exact HF8.out z _ hzA (fun A h => by injection h with _ h; exact absurd h (by decide)) (fun (e : z = gb) => own_ne HROWX.out HBGB.out (by decide) (e ▸ hz)))
              have hkp7 : Kp w.heap.size (AdM gb mb (.slice av N cv)) w (w7.setCell ⟨gb, 0, none⟩ (.slice (some ⟨g1, 0, none⟩) (N + k + 1) cap1)) :=
                ((HKX.out.alloc HKX.out.size _).grown HGR7.out (Nat.le_trans HKX.out.size (by simp)) (fun z hz => (HVO.out z hz).elim .inl fun h => .inr (.inr (.inr h)))).setCell (.inr (.inl rfl)) _
              have hgv7 := gv_put (d := ⟨xk, N + m, N + M2, N + k⟩) HGB7.out HLO.out (HOO.out.snoc_own HGLN.out.symm) (by rw [HGLN.out]; simpa [Ug.ndCells] using HOWN7.out)
              obtain ⟨o7, ho7, hm7⟩ := vat_block HVX2.out
              have hvat7 := HVX2.out.same (HF8.out mb _ ho7 (fun A => hm7 A _) (fun (e : mb = gb) => by rw [e, HBGB.out] at ho7; injection ho7 with ho7; exact hm7 _ _ ho7.symm))
              have HROW8 := Lib.hid hrow7; have HKP8 := Lib.hid hkp7; have HGV8 := Lib.hid hgv7; have HVAT8 := Lib.hid hvat7
              clear hrow7 hkp7 hgv7 hvat7 e0 e1 e2 e3 cgb hgb2 hnb2 hi hz0 hz1 hz2 ho7 hm7 cgb7 fgb7
              go_wp2_with fail
              go_roundg (gk - 1)
              case measure => exact gk_less HGK.out HL1.out hlt
              case rel =>
                refine ⟨k + 1, ks ++ es, _, (n' + 1), _, (putF F' o xn (N + k)), by rw [Int.natCast_add]; rfl, ⟨?_, by rw [HM2.out]; exact HROW8.out, fun e he => ?_, HGV8.out, HVAT8.out, ?_, HKP8.out, fun z hz => ?_, gk_next HGK.out HL1.out hlt⟩⟩
                · rw [List.map_append, HES.out]
                  exact HR.out.add.step ⟨HNX'.out.1, HNX'.out.2.1, HNX'.out.2.2.1, (by rw [HVX.out.1, if_neg H5.out]), .inr (.inl ⟨HVX.out.1.trans H6.out, by rw [HVX.out.2.1]; exact HF.out, HNX'.out.2.2.2, by unfold putF; rw [HVX.out.2.1, HNX'.out.2.2.2]⟩)⟩
                · refine ty_same (kp_two HR.out.keep HKP8.out HBW.out HADB.out) (fun _ h => h) ?_
                  exact (List.mem_append.1 he).elim (HR.out.each e) (HEY.out e)
                · have := HR.out.nl; rw [List.length_append, List.length_singleton]; omega
                · injection hz with hz
                  dsimp only at hz
                  subst hz
                  rcases HLY.out with h9 | h9
                  · exact HVO.out _ h9
                  · exact .inl (by have := HKX.out.size; omega)
        · have g5 : (xk == 5) = false := by simp [h5]
          have g6 : (xk == 6) = false := by simp [h6]
          have H5 := Lib.hid h5; have H6 := Lib.hid h6
          clear h5 h6
          go_upto_region 15 with fail
          have HBX := HBN9; have HROWX := HROW9; have HGX := HGV9; have HVX2 := HV9; have HKX := HK9
          obtain ⟨G, hO, hnown⟩ := HGX.out.row
          obtain ⟨va, vc, rfl⟩ := own_shapeT hnown
          have hGL : G.length = N + k := hO.len.trans (by rw [HL3.out, HNN.out])
          rw [hGL] at hnown
          have hbgb : W9.heap[gb]? = some (.cells #[.slice va (N + k) vc, .map (some mb)] 62) := by have := HGX.out.box; rw [hGL] at this; exact this
          have cgb : W9.cell? ⟨gb, 0, none⟩ = some (.slice va (N + k) vc) := cell_box hbgb rfl rfl
          have e0 : W9.cell? ⟨wr.heap.size + 1, 0, none⟩ = some (.int .i64 xk) := cell_box HBX.out rfl rfl
          have e1 : W9.cell? ⟨wr.heap.size + 1, 1, none⟩ = some (.int .i64 ((N : Int) + (m : Int))) := cell_box HBX.out rfl rfl
          have e2 : W9.cell? ⟨wr.heap.size + 1, 2, none⟩ = some (.int .i64 ((N : Int) + (M2 : Int))) := cell_box HBX.out rfl rfl
          have e3 : W9.cell? ⟨wr.heap.size + 1, 3, none⟩ = some (.int .i64 ((N : Int) + (k : Int))) := cell_box HBX.out rfl rfl
          have hgb2 : gb < W9.heap.size := (Array.getElem?_eq_some_iff.1 hbgb).1
          have hnb2 : wr.heap.size + 1 < W9.heap.size := (Array.getElem?_eq_some_iff.1 HBX.out).1
          obtain ⟨i9, hi, hz0, hz1, hz2⟩ := info_parts info_nd
          obtain ⟨b1, b2⟩ := b32u (r := N + k) HNK.out
          have B1 := Lib.hid b1; have B2 := Lib.hid b2
          have HNOWN := Lib.hid hnown; have HOO := Lib.hid hO; have HGLN := Lib.hid hGL; have HBGB := Lib.hid hbgb
          have HVO := Lib.hid (show ∀ z, (Value.slice va (N + k) vc).ownBlock = some z → w.heap.size ≤ z ∨ (Value.slice av N cv).ownBlock = some z by have := HVOWN.out; rw [hGL] at this; exact this)
          have HNX := Lib.hid (show B ≤ W9.heap.size from Nat.le_trans HBW.out HKX.out.size)
          clear b1 b2 hnown hO hGL hbgb
          go_region_law (first | (refine step_append_lies _ ?_ (.tmp 68) (.tmp 70) 60 ?_ B 88 i9 (.agg #[.int .i64 0, .int .i64 0, .int .i64 0, .int .i64 0]) 4 32 Try.underlying60 hi hz0 hz1 hz2 ?_ ?_ (.slice va (N + k) vc) (N + k) (Ug.ndRow G) ?_ ?_ ⟨W9.heap.size, 0, none⟩ 1 1 [.int .i64 xk, .int .i64 ((N : Int) + (m : Int)), .int .i64 ((N : Int) + (M2 : Int)), .int .i64 ((N : Int) + (k : Int))] ?_ ?_ ?_ ?_ ?_ ?_ ?_ ?_ (W9.heap.size + 1) ?_ ?_; (· rfl); (· rfl); (· rfl); (· decide); (· rfl); (· exact HNOWN.out.alloc _); (· rfl); (· rfl); (· exact World.news_of_block (World.alloc_heap_new W9 _)); (· exact four_ints _ _ _ _); (· decide); (· exact B2.out); (· exact B1.out); (· exact Nat.le_trans HNX.out (by simp)); (· simp); intro g1 cap1 w7 own1 gr1 ly1 lt1; (have gr1' := undrew gr1); (have hgb7 : w7.heap[gb]? = some (.cells #[.slice va (N + k) vc, .map (some mb)] 62) := (gr1'.block gb (by rw [World.size_alloc]; omega) (fun e => gv_far HNOWN.out HBGB.out graph_no e.symm)).trans ((Below.heap_alloc _ _ _ hgb2).trans HBGB.out)); (have cgb7 : w7.cell? ⟨gb, 0, none⟩ = some (.slice va (N + k) vc) := cell_box hgb7 rfl rfl); (have fgb7 : w7.frozen? ⟨gb, 0, none⟩ = false := IsC.frozen ⟨_, _, hgb7⟩); (have HGR7 := Lib.hid gr1'); (have HOWN7 := Lib.hid own1); (have HGB7 := Lib.hid hgb7); (have HLY := Lib.hid ly1); clear gr1 gr1' own1 hgb7 ly1 lt1))
          all_goals
            have HF8 := Lib.hid (add_far (gb := gb) (v' := .slice (some ⟨g1, 0, none⟩) (N + k + 1) cap1) HGR7.out HNOWN.out)
            have hrow7 := own_same (w' := w7.setCell ⟨gb, 0, none⟩ (.slice (some ⟨g1, 0, none⟩) (N + k + 1) cap1)) HROW9.out (fun z hz => by
              obtain ⟨hz2, A, hzA⟩ := own_block HROW9.out hz
              exact HF8.out z _ hzA (fun A h => by injection h with _ h; exact absurd h (by decide)) (fun (e : z = gb) => own_ne HROW9.out HBGB.out (by decide) (e ▸ hz)))
            have hkp7 : Kp w.heap.size (AdM gb mb (.slice av N cv)) w (w7.setCell ⟨gb, 0, none⟩ (.slice (some ⟨g1, 0, none⟩) (N + k + 1) cap1)) :=
              ((HKX.out.alloc HKX.out.size _).grown HGR7.out (Nat.le_trans HKX.out.size (by simp)) (fun z hz => (HVO.out z hz).elim .inl fun h => .inr (.inr (.inr h)))).setCell (.inr (.inl rfl)) _
            have hgv7 := gv_put (d := ⟨xk, N + m, N + M2, N + k⟩) HGB7.out HLO.out (HOO.out.snoc_own HGLN.out.symm) (by rw [HGLN.out]; simpa [Ug.ndCells] using HOWN7.out)
            obtain ⟨o7, ho7, hm7⟩ := vat_block HVX2.out
            have hvat7 := HVX2.out.same (HF8.out mb _ ho7 (fun A => hm7 A _) (fun (e : mb = gb) => by rw [e, HBGB.out] at ho7; injection ho7 with ho7; exact hm7 _ _ ho7.symm))
            have HROW8 := Lib.hid hrow7; have HKP8 := Lib.hid hkp7; have HGV8 := Lib.hid hgv7; have HVAT8 := Lib.hid hvat7
            clear hrow7 hkp7 hgv7 hvat7 e0 e1 e2 e3 cgb hgb2 hnb2 hi hz0 hz1 hz2 ho7 hm7 cgb7 fgb7
            go_wp2_with fail
            go_roundg (gk - 1)
            case measure => exact gk_less HGK.out HL1.out hlt
            case rel =>
              refine ⟨k + 1, ks ++ es, _, n', _, F', by rw [Int.natCast_add]; rfl, ⟨?_, by rw [HM2.out]; exact HROW8.out, fun e he => ?_, HGV8.out, HVAT8.out, ?_, HKP8.out, fun z hz => ?_, gk_next HGK.out HL1.out hlt⟩⟩
              · rw [List.map_append, HES.out]
                exact HR.out.add.step ⟨HNX'.out.1, HNX'.out.2.1, HNX'.out.2.2.1, (by rw [HVX.out.1, if_neg H5.out]), .inr (.inr ⟨by rw [HVX.out.1]; exact H6.out, HNX'.out.2.2.2, rfl⟩)⟩
              · refine ty_same (kp_two HR.out.keep HKP8.out HBW.out HADB.out) (fun _ h => h) ?_
                exact (List.mem_append.1 he).elim (HR.out.each e) (HEY.out e)
              · have := HR.out.nl; rw [List.length_append, List.length_singleton]; omega
              · injection hz with hz
                dsimp only at hz
                subst hz
                rcases HLY.out with h9 | h9
                · exact HVO.out _ h9
                · exact .inl (by have := HKX.out.size; omega)
    · obtain rfl : k = m := by omega
      go_wp2_with fail
      go_ret
      have h1 := HR.out.add
      rw [show k = (ks.map Ke.t).length from by rw [List.length_map, HM.out]] at h1
      exact ⟨rfl, v, H', F', _, n', h1, HR.out.gv, HR.out.vat, HR.out.nl, HR.out.keep, HR.out.vown⟩
end Go.Proofs.Ytncdbbjkafgphaa
namespace Go.Proofs.Ytncdbbjkafgphaa
open Go Go.RowKit
open Tp (T)
theorem elem_cp : Try.prog.underlying 83 = some (.slice (Try.prog.elem 83)) := by kernel_rfl
theorem size_cp (w : World) : (sizeOf (Try.prog.elem 83)).run Try.prog w = .ok 6 w := by kernel_rfl
theorem info_cp : (Try.prog.info? 82).map (fun i => (i.zero, i.size, i.bytes)) = some (some (.agg #[.int .i64 0, .int .i64 0, .slice none 0 0, .int .i64 0, .int .i64 0, .slice none 0 0]), 6, 80) := by kernel_rfl
theorem cp_pop (g n cap k : Nat) (hk : k ≤ n) (hn : n ≤ cap) (w' : World) :
    (Instr.slice 83 (.slice (some ⟨g, 0, none⟩) n cap) none (some (.int .i64 (k : Int))) none).run Try.prog w' = .ok (.slice (some ⟨g, 0, none⟩) k cap) w' := by
  rw [run_slice_h w' _ _ n cap elem_cp .i64 (k : Int) (by omega) (by omega), size_cp]
  simp [Result.andThen, sliced, add_flat]
theorem own_top6 {w : World} {base : Nat} {v : Value} {R : List En3} {e : En3} (h : w.ownsRow base 82 6 v (R.length + 1) (st3Cells (e :: R).reverse)) :
    ∃ g cap, v = .slice (some ⟨g, 0, none⟩) (R.length + 1) cap ∧ base ≤ g ∧ g < w.heap.size ∧ R.length + 1 ≤ cap ∧ cap ≤ maxLen ∧ (∀ i u, (en3Cells e)[i]? = some u → w.cell? ⟨g, R.length * 6 + i, none⟩ = some u) ∧
      w.ownsRow base 82 6 (.slice (some ⟨g, 0, none⟩) R.length cap) R.length (st3Cells R.reverse) := by
  rw [List.reverse_cons, st3Cells_snoc] at h
  obtain ⟨h1, h2 | ⟨g, cap, cur, h3, h4, h5, h6, h7, h8, h9⟩⟩ := id h
  · omega
  · subst h3
    have hlen := st3Cells_length R.reverse
    rw [List.length_reverse] at hlen
    have hc := h.cells (g := g) rfl
    refine ⟨g, cap, rfl, h4, (Array.getElem?_eq_some_iff.1 h5).1, h6, h7, fun i u hu => ?_, own_take h (Nat.le_succ _) hlen⟩
    have := hc (R.length * 6 + i) u (by rw [← hlen, List.getElem?_append_right (by omega), Nat.add_sub_cancel_left]; exact hu)
    rwa [add_flat, Nat.zero_add] at this
theorem wrap_k4 {k : Nat} (h : k ≤ 4 * 1000000) : Value.int .i64 (wrap64 ((k : Int) + 1)) = .int .i64 ((k + 1 : Nat) : Int) := by
  rw [show wrap64 ((k : Int) + 1) = ((k + 1 : Nat) : Int) from by unfold wrap64; omega]
theorem b80u {r : Nat} (h : r ≤ 4 * 1000000) : (r + 1) * 80 ≤ 140737488355328 ∧ r + 1 ≤ maxLen := by unfold maxLen; omega
/-- A pair's two types, in blocks below n. -/
def En3.lie (n : Nat) (w : World) (e : En3) : Prop := TyAt (LT n) w e.x e.a e.ca ∧ TyAt (LT n) w e.y e.b e.cb
theorem En3.lie.same {n : Nat} {w w' : World} {e : En3} (h : e.lie n w) (hs : ∀ z, z < n → w'.heap[z]? = w.heap[z]?) : e.lie n w' := ⟨ty_same hs (fun _ h => h) h.1, ty_same hs (fun _ h => h) h.2⟩
/-- k pairs laid. -/
structure AkR (B n : Nat) (x y : T) (S : List En3) (v0 : Value) (w : World) (k : Nat) (E : List En3) (v : Value) (wr : World) : Prop where
  own : wr.ownsRow B 82 6 v (E.length + S.length) (st3Cells (E ++ S).reverse)
  laid : Laid x y k E
  each : ∀ e ∈ E, e.lie n wr
  keep : Kp w.heap.size (fun z => v0.ownBlock = some z) w wr
  vown : ∀ z, v.ownBlock = some z → w.heap.size ≤ z ∨ v0.ownBlock = some z
theorem AkR.next {B n g1 cap1 k q : Nat} {x y : T} {S E : List En3} {v0 v : Value} {w wr w7 : World} {o : Obj} {e : En3} (h : AkR B n x y S v0 w k E v wr) (hq : E.length + S.length = q) (hg : (wr.alloc o).grownBy w7 v.ownBlock) (hl : v.ownBlock = some g1 ∨ g1 = wr.heap.size + 1)
    (hown : w7.ownsRow B 82 6 (.slice (some ⟨g1, 0, none⟩) (q + 1) cap1) (q + 1) (st3Cells (E ++ S).reverse ++ en3Cells e)) (hk : k < x.kids.length) (hk' : k < y.kids.length) (hx : e.x = x.kids[k]) (hy : e.y = y.kids[k]) (he : e.lie n wr) (hnB : n ≤ B) (hB : B ≤ w.heap.size) :
    AkR B n x y S v0 w (k + 1) (e :: E) (.slice (some ⟨g1, 0, none⟩) (q + 1) cap1) w7 := by
  have hrow : ∀ z, v.ownBlock = some z → B ≤ z := fun z hz => (h.own.lt z hz).1
  have hsz := h.keep.size
  have low : ∀ z, z < n → w7.heap[z]? = wr.heap[z]? := fun z hz => (hg.block z (by rw [World.size_alloc]; omega) (fun x => by have := hrow z x.symm; omega)).trans (Below.heap_alloc _ _ _ (by omega))
  refine ⟨?_, h.laid.push hk hk' hx hy, fun e' he' => ?_, ?_, fun z hz => ?_⟩
  · rw [List.cons_append, List.reverse_cons, st3Cells_snoc, List.length_cons, show E.length + 1 + S.length = q + 1 from by omega]
    exact hown
  · rcases List.mem_cons.1 he' with rfl | he'
    · exact he.same low
    · exact (h.each e' he').same low
  · exact (h.keep.alloc h.keep.size _).grown hg (Nat.le_trans h.keep.size (by simp)) (fun z hz => h.vown z hz)
  · injection hz with hz
    dsimp only at hz
    subst hz
    rcases hl with hl | hl
    · exact h.vown _ hl
    · exact .inl (by omega)
set_option maxRecDepth 100000 in
set_option maxHeartbeats 4000000 in
theorem addKids_any (B n : Nat) (x y : T) (xa : Option Addr) (xc : Nat) (ya : Option Addr) (yc : Nat) (xk xn yk yn : Int) (xm : Nat) (S : List En3) (sa : Option Addr) (sc : Nat) (w : World) (hvx : TV x xk xn xm) (hvy : TV y yk yn xm)
    (hown : w.ownsRow B 82 6 (.slice sa S.length sc) S.length (st3Cells S.reverse)) (hx : TyAt (LT n) w x xa xc) (hy : TyAt (LT n) w y ya yc) (hnB : n ≤ B) (hB : B ≤ w.heap.size) (hsz : S.length + xm ≤ 4 * 1000000) :
    Calls Try.prog 58 #[.agg #[.int .i64 xk, .int .i64 xn, .slice xa xm xc, .int .i64 yk, .int .i64 yn, .slice ya xm yc], .slice sa S.length sc] w fun e w' =>
      ∃ v E, e = .returned v ∧ AkR B n x y S (.slice sa S.length sc) w xm E v w' := by
  obtain ⟨W1, hW1⟩ : ∃ W, w.alloc (.cells #[.int .i64 xk, .int .i64 xn, .slice xa xm xc, .int .i64 yk, .int .i64 yn, .slice ya xm yc] 82) = W := ⟨_, rfl⟩
  have hk1 : Kp w.heap.size (fun z => (Value.slice sa S.length sc).ownBlock = some z) w W1 := by rw [← hW1]; exact (Kp.refl _ _ _).alloc (Nat.le_refl _) _
  have hb1 : W1.heap[w.heap.size]? = some (.cells #[.int .i64 xk, .int .i64 xn, .slice xa xm xc, .int .i64 yk, .int .i64 yn, .slice ya xm yc] 82) := by rw [← hW1]; exact World.alloc_heap_new _ _
  have hs1 : W1.heap.size = w.heap.size + 1 := by rw [← hW1]; simp
  have hst : AkR B n x y S (.slice sa S.length sc) w 0 [] (.slice sa S.length sc) W1 := by
    refine ⟨?_, by unfold Laid; simp, (fun _ h => by cases h), hk1, fun z hz => .inr hz⟩
    rw [List.length_nil, Nat.zero_add, List.nil_append, ← hW1]; exact hown.alloc _
  have hn : n ≤ w.heap.size := Nat.le_trans hnB hB
  have HST := Lib.hid hst; have HB1 := Lib.hid hb1; have HW1 := Lib.hid hW1; have HX := Lib.hid hx; have HY := Lib.hid hy; have HVX := Lib.hid hvx; have HVY := Lib.hid hvy; have HNB := Lib.hid hnB; have HB := Lib.hid hB; have HSZ := Lib.hid hsz; have HN := Lib.hid hn; have HS1 := Lib.hid hs1
  have hrow0 : ∀ z, (Value.slice sa S.length sc).ownBlock = some z → B ≤ z ∧ z < w.heap.size := hown.lt
  have HR0 := Lib.hid hrow0
  obtain ⟨s, hs⟩ : ∃ s, S.length = s := ⟨_, rfl⟩
  rw [hs] at HST HSZ HR0 ⊢
  have HSS := Lib.hid hs
  clear hst hb1 hW1 hx hy hvx hvy hnB hB hsz hn hs1 hk1 hown hrow0 hs
  go_enter Try.func58, Try.ntmps58
  go_upto_region 1 with fail
  rw [HW1.out]
  have c2 : W1.cell? ⟨w.heap.size, 2, none⟩ = some (.slice xa xm xc) := cell_box HB1.out rfl rfl
  go_wp2_with fail
  clear c2
  go_loopg [1, 10] xm (fun gk v v10 wr => ∃ (E : List En3) (k : Nat), v10 = .int .i64 (k : Int) ∧ k ≤ xm ∧ AkR B n x y S (.slice sa s sc) w k E v wr ∧ wr.heap[w.heap.size]? = some (.cells #[.int .i64 xk, .int .i64 xn, .slice xa xm xc, .int .i64 yk, .int .i64 yn, .slice ya xm yc] 82) ∧ (∀ z, v.ownBlock = some z → z ≠ w.heap.size) ∧ gk = xm - k)
  case atStart => exact ⟨[], 0, rfl, Nat.zero_le _, HST.out, HB1.out, fun z hz => by have := (HR0.out z hz).2; omega, rfl⟩
  case round =>
    obtain ⟨E, k, rfl, hkm, hr, hb, hne, rfl⟩ := hrel
    obtain ⟨av, cv, rfl⟩ := own_shapeT hr.own
    have HR := Lib.hid hr; have HB2 := Lib.hid hb; have HNE := Lib.hid hne
    clear hr hb hne HST
    by_cases hlt : k < xm
    · have hkx : k < x.kids.length := by rw [HVX.out.2.2]; exact hlt
      have hky : k < y.kids.length := by rw [HVY.out.2.2]; exact hlt
      have hlow : ∀ z, z < n → wr.heap[z]? = w.heap[z]? := fun z hz => HR.out.keep.block z (by have := HN.out; omega) (fun h => by have := (HR0.out z h).1; have := HNB.out; omega)
      obtain ⟨b, o, rfl, hbn, hNk⟩ := (ty_same (G' := LT n) hlow (fun _ h => h) HX.out).2.2.2.2.first (by omega)
      obtain ⟨za, zcap, hz, z0, z1, z2⟩ := (hNk k hkx).ty
      obtain ⟨b', o', rfl, hbn', hNk'⟩ := (ty_same (G' := LT n) hlow (fun _ h => h) HY.out).2.2.2.2.first (by omega)
      obtain ⟨z'a, z'cap, hz', z'0, z'1, z'2⟩ := (hNk' k hky).ty
      obtain ⟨zk, zn, zm, hvz⟩ := TV.mk x.kids[k]
      obtain ⟨z'k, z'n, z'm, hvz'⟩ := TV.mk y.kids[k]
      rw [hvz.1] at z0; rw [hvz.2.1] at z1; rw [hvz.2.2] at z2; rw [hvz'.1] at z'0; rw [hvz'.2.1] at z'1; rw [hvz'.2.2] at z'2
      obtain ⟨q, hqq⟩ : ∃ q, E.length + S.length = q := ⟨_, rfl⟩
      have hEk : E.length = k := HR.out.laid.len (by rw [HVX.out.2.2]; exact hkm) (by rw [HVX.out.2.2, HVY.out.2.2])
      have hq : q ≤ 4 * 1000000 := by have h1 := HSZ.out; have h2 := HSS.out; omega
      obtain ⟨k80, kml⟩ := b80u hq
      have B1 := Lib.hid k80; have B2 := Lib.hid kml
      have hx := HR.out.own
      rw [hqq] at hx HR HNE ⊢
      have HX6 := Lib.hid hx; have HQ := Lib.hid hqq; have HZ := Lib.hid (show En3.lie n wr ⟨x.kids[k], za, zcap, y.kids[k], z'a, z'cap⟩ from ⟨hz, hz'⟩); have HVZ := Lib.hid hvz; have HVZ' := Lib.hid hvz'
      obtain ⟨i0, hi, hz0, hz1, hz2⟩ := info_parts info_cp
      obtain ⟨i1, i2⟩ := pt_int hlt
      have HNX := Lib.hid (show B ≤ wr.heap.size from Nat.le_trans HB.out HR.out.keep.size)
      have d2 := cell_box (i := 2) HB2.out rfl rfl
      have d5 := cell_box (i := 5) HB2.out rfl rfl
      clear hz hz' hvz hvz' hq k80 kml hx hqq hbn hbn' hNk hNk' hlow hEk
      go_upto_region 4 with fail
      go_region_law (first | (refine step_append_lies _ ?_ (.tmp 13) (.tmp 27) 83 ?_ B 82 i0 (.agg #[.int .i64 0, .int .i64 0, .slice none 0 0, .int .i64 0, .int .i64 0, .slice none 0 0]) 6 80 Try.underlying83 hi hz0 hz1 hz2 ?_ ?_ (.slice av q cv) q (st3Cells (E ++ S).reverse) ?_ ?_ ⟨wr.heap.size, 0, none⟩ 1 1 [.int .i64 zk, .int .i64 zn, .slice za zm zcap, .int .i64 z'k, .int .i64 z'n, .slice z'a z'm z'cap] ?_ ?_ ?_ ?_ ?_ ?_ ?_ ?_ (wr.heap.size + 1) ?_ ?_; (· rfl); (· rfl); (· rfl); (· decide); (· rfl); (· exact HX6.out.alloc _); (· rfl); (· rfl); (· exact World.news_of_block (World.alloc_heap_new wr _)); (· exact six_cells _ _ _ _ _ _ _ _ _ _); (· decide); (· exact B2.out); (· exact B1.out); (· exact Nat.le_trans HNX.out (by simp)); (· simp); intro g1 cap1 w7 own1 gr1 ly1 _))
      all_goals
        have gr1' := undrew gr1
        have hne7 : w7.heap[w.heap.size]? = _ := (gr1'.block w.heap.size (by rw [World.size_alloc]; have := (Array.getElem?_eq_some_iff.1 HB2.out).1; omega) (fun e => HNE.out _ e.symm rfl)).trans ((Below.heap_alloc _ _ _ (Array.getElem?_eq_some_iff.1 HB2.out).1).trans HB2.out)
        have hg1 : g1 ≠ w.heap.size := by
          rcases ly1 with h | h
          · exact HNE.out _ h
          · have := (Array.getElem?_eq_some_iff.1 HB2.out).1; omega
        have hnx := HR.out.next (e := ⟨x.kids[k], za, zcap, y.kids[k], z'a, z'cap⟩) HQ.out gr1' ly1 (by simp only [en3Cells, HVZ.out.1, HVZ.out.2.1, HVZ.out.2.2, HVZ'.out.1, HVZ'.out.2.1, HVZ'.out.2.2]; exact own1) hkx hky rfl rfl HZ.out HNB.out HB.out
        have HNXT := Lib.hid hnx; have HE7 := Lib.hid hne7; have HG1 := Lib.hid hg1
        clear gr1 gr1' ly1 own1 hne7 hg1 hnx z0 z1 z2 z'0 z'1 z'2 i1 i2 hi hz0 hz1 hz2 d2 d5
        go_wp2_with fail
        go_roundg (xm - (k + 1))
        case measure => omega
        case rel => exact ⟨_, k + 1, wrap_k4 (Nat.le_trans (Nat.le_of_lt hlt) (Nat.le_trans (Nat.le_add_left _ _) HSZ.out)), hlt, HNXT.out, HE7.out, fun z hz => by (injection hz with hz; dsimp only at hz; rw [← hz]; exact HG1.out), rfl⟩
    · obtain rfl : k = xm := by omega
      go_wp2_with fail
      go_ret
      exact ⟨_, E, rfl, HR.out⟩
end Go.Proofs.Ytncdbbjkafgphaa

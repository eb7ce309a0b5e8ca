/- The laws' own: Right of a row, fun, the sample. -/
import Derived.Test.YtopfdggbkckeoaaAgL
import Derived.Test.YtopfdggbkckeoaaTrF
namespace Go.Proofs.Ytopfdggbkckeoaa
open Go Go.RowKit
open Tp (T)

def funT (x y : Int) : T := .mk 9 0 [.mk x 0 [], .mk y 0 []]
theorem _root_.Go.RowKit.Below.tr {w w1 w2 : World} {n : Nat} (h : Below n w w1) (h2 : Below w1.heap.size w1 w2) (hn : n ≤ w.heap.size) : Below n w w2 := h.trans (h2.mono (Nat.le_trans hn h.size))
set_option maxRecDepth 100000 in
set_option maxHeartbeats 2000000 in
theorem fun_any (x y : Int) (hx : I64 x) (hy : I64 y) (w : World) : Calls Try.prog 33 #[.int .i64 x, .int .i64 y] w (TyRes (funT x y) 2 w) := by
  have H9 := Lib.hid (show I64 9 from i64_nat (by decide) (by decide))
  have HX := Lib.hid hx; have HY := Lib.hid hy
  obtain ⟨W1, hW1⟩ : ∃ W1, w.alloc (.cells #[.int .i64 0, .int .i64 0, .slice none 0 0] 24) = W1 := ⟨_, rfl⟩
  have HR := Lib.hid (show W1.heap[w.heap.size]? = some (.cells #[.int .i64 0, .int .i64 0, .slice none 0 0] 24) by rw [← hW1]; exact World.alloc_heap_new w _)
  have HB1 := Lib.hid (show Below w.heap.size w W1 by rw [← hW1]; exact (Below.refl _ _).alloc (Nat.le_refl _) _)
  have HS1 := Lib.hid (show W1.heap.size = w.heap.size + 1 by rw [← hW1]; simp)
  have HW1 := Lib.hid hW1
  clear hW1 hx hy
  go_enter Try.func33, Try.ntmps33
  go_upto_region 1 with fail
  rw [HW1.out]
  go_wp2_with fail
  refine (leaf_any x W1).mono ?_
  rintro e w2 ⟨rfl, hb2⟩
  have HB2 := Lib.hid hb2; clear hb2
  go_wp2_with fail
  refine (leaf_any y w2).mono ?_
  rintro e w3 ⟨rfl, hb3⟩
  have HB3 := Lib.hid hb3; clear hb3
  go_wp2_with fail
  refine (two_anyG (fun _ => False) 9 H9.out (.mk x 0 []) x 0 0 none 0 (.mk y 0 []) y 0 0 none 0 w3 ⟨rfl, rfl, rfl⟩ ⟨rfl, rfl, rfl⟩ (fun _ h => h.elim) (leaf_at HX.out) (leaf_at HY.out)).mono ?_
  rintro e w4 ⟨g, rfl, hty, hb4⟩
  have hb14 : Below W1.heap.size W1 w4 := (HB2.out.tr HB3.out (Nat.le_refl _)).tr hb4 (Nat.le_refl _)
  have hr4 : w4.heap[w.heap.size]? = _ := (hb14.block _ (by have := HS1.out; omega)).trans HR.out
  have r0 : w4.cell? ⟨w.heap.size, 0, none⟩ = some (.int .i64 0) := cell_box hr4 rfl rfl
  have r1 : w4.cell? ⟨w.heap.size, 1, none⟩ = some (.int .i64 0) := cell_box hr4 rfl rfl
  have r2 : w4.cell? ⟨w.heap.size, 2, none⟩ = some (.slice none 0 0) := cell_box hr4 rfl rfl
  have f0 : w4.frozen? ⟨w.heap.size, 0, none⟩ = false := IsC.frozen ⟨_, _, hr4⟩
  have f1 : w4.frozen? ⟨w.heap.size, 1, none⟩ = false := IsC.frozen ⟨_, _, hr4⟩
  have f2 : w4.frozen? ⟨w.heap.size, 2, none⟩ = false := IsC.frozen ⟨_, _, hr4⟩
  have HR4 := Lib.hid hr4; have HB14 := Lib.hid hb14; have HTY := Lib.hid hty
  clear hr4 hb14 hty hb4
  go_wp2_with fail
  have hF := box_set3 (v0 := .int .i64 9) (v1 := .int .i64 0) (v2 := .slice (some ⟨g, 0, none⟩) 2 2) HR4.out
  have hT := set3_turns w4 w.heap.size (.int .i64 9) (.int .i64 0) (.slice (some ⟨g, 0, none⟩) 2 2)
  have hO := fun k (hk : k ≠ w.heap.size) => set3_other (V := w4) (v0 := .int .i64 9) (v1 := .int .i64 0) (v2 := .slice (some ⟨g, 0, none⟩) 2 2) hk
  clear r0 r1 r2 f0 f1 f2
  generalize ((w4.setCell ⟨w.heap.size, 0, none⟩ (.int .i64 9)).setCell ⟨w.heap.size, 1, none⟩ (.int .i64 0)).setCell ⟨w.heap.size, 2, none⟩ (.slice (some ⟨g, 0, none⟩) 2 2) = F at hF hT hO ⊢
  have hbw : Below w.heap.size w w4 := HB1.out.tr HB14.out (Nat.le_refl _)
  have hbF : Below w.heap.size w F := (hT.mono (M' := fun k => w.heap.size ≤ k) (fun k _ hk => by rw [show k = w.heap.size from hk]; omega)).below hbw (fun _ h => h) hbw.size
  have hz := (HB2.out.tr HB3.out (Nat.le_refl _)).size
  have hty : TyAt (LT F.heap.size) F (funT x y) (some ⟨g, 0, none⟩) 2 := by
    obtain ⟨q1, q2, q3, q4, q5⟩ := HTY.out
    refine ⟨q1, q2, q3, q4, KidsAt.mono (fun b o hb => World.cell?_of_block (a := ⟨b, o, none⟩) (hO b ?_)) (fun b hb => ?_) _ _ q5⟩
    · rcases hb with h | h
      · exact h.elim
      · have := HS1.out; omega
    · rcases hb with h | h
      · exact h.elim
      · exact Nat.lt_of_lt_of_le h.2 hT.size
  exact bodyPost_ret_by (v := .agg #[.int .i64 9, .int .i64 0, .slice (some ⟨g, 0, none⟩) 2 2]) (results_cell_row (p := 4) (ty := 24) (by kernel_rfl) _ _ w.heap.size 24 _ (0, 0) _ rfl hF Try.underlying24 rfl (by kernel_rfl)) rfl ⟨g, rfl, hty, hbF⟩

set_option maxHeartbeats 1000000 in
theorem lright_any (l : List T) (a : Option Addr) (cap : Nat) (w : World) (hl : l.length ≤ 10) (hk : KidsAt (LT w.heap.size) w l a) :
    Calls Try.prog 18 #[.slice a l.length cap] w fun e w' => e = .returned (.bool (!decide (600 < Tp.sizes l) && Tp.rights l)) ∧ Below w.heap.size w w' := by
  have hhe := heavy_any l a cap w hl hk
  have HK := Lib.hid hk; clear hk
  obtain ⟨m, hm⟩ : ∃ m, l.length = m := ⟨_, rfl⟩
  obtain ⟨hv, hhv⟩ : ∃ hv, decide (600 < Tp.sizes l) = hv := ⟨_, rfl⟩
  rw [hm] at hl hhe ⊢
  rw [hhv] at hhe ⊢
  have HM := Lib.hid hm; have HHE := Lib.hid hhe; clear hm hhe hhv
  go_enter Try.func18, Try.ntmps18
  go_wp2_with fail
  refine HHE.out.mono ?_
  rintro e w1 ⟨rfl, hb1⟩
  have HB1 := Lib.hid hb1; clear hb1
  cases hv with
  | true =>
    go_wp2_with fail
    go_ret
    exact ⟨rfl, HB1.out⟩
  | false =>
    go_wp2_with fail
    go_loopg [3] m (fun gk i wr => ∃ (k : Nat), k ≤ m ∧ i = .int .i64 k ∧ Tp.rights (l.take k) = true ∧ Below w.heap.size w wr ∧ gk = m - k)
    case atStart => exact ⟨0, Nat.zero_le _, rfl, rfl, HB1.out, rfl⟩
    case round =>
      obtain ⟨k, hk, rfl, q1, hb, rfl⟩ := hrel
      have HB := Lib.hid hb; have Q1 := Lib.hid q1; clear hb q1
      by_cases hlt : k < m
      · have hkl : k < l.length := by rw [HM.out]; exact hlt
        have hk2 : KidsAt (LT wr.heap.size) wr l a := HK.out.below HB.out (fun _ h => h) (fun b h => Nat.lt_of_lt_of_le h HB.out.size)
        obtain ⟨b, o, rfl, hbn, hN⟩ := hk2.first (by omega)
        obtain ⟨xa, xcap, hx, x0, x1, x2⟩ := (hN k hkl).ty
        have hst := rights_take l k hkl
        have hget := rights_get l k hkl
        have hcall := rright_any (Tp.size l[k]) l[k] xa xcap wr (Nat.le_refl _) hx
        unfold tv at hcall
        obtain ⟨y, hy⟩ : ∃ x, l[k] = x := ⟨_, rfl⟩
        rw [hy] at x0 x1 x2 hcall hst hget
        obtain ⟨ry, hry⟩ : ∃ r, Tp.right y = r := ⟨_, rfl⟩
        rw [hry] at hcall hst hget
        have HST := Lib.hid hst; have HC := Lib.hid hcall; have HGET := Lib.hid hget
        clear hst hcall hx hy hry hk2 hN hbn hget
        go_wp2_with fail
        refine HC.out.mono ?_
        rintro e w5 ⟨rfl, hb5⟩
        have HB5 := Lib.hid hb5; clear hb5 x0 x1 x2
        cases ry with
        | true =>
          go_wp2_with fail
          go_roundg (m - (k + 1))
          case measure => omega
          case rel => exact ⟨k + 1, by omega, by go_num, by rw [HST.out, Q1.out]; rfl, HB.out.trans (HB5.out.mono HB.out.size), rfl⟩
        | false =>
          go_wp2_with fail
          go_ret
          exact ⟨ret_boolT (by rw [HGET.out (by simp)]; rfl), HB.out.trans (HB5.out.mono HB.out.size)⟩
      · obtain rfl : k = m := by omega
        have htk : l.take k = l := List.take_of_length_le (by rw [HM.out]; exact Nat.le_refl _)
        have hre : Tp.rights l = true := by rw [← htk]; exact Q1.out
        have HRE := Lib.hid hre; clear htk hre
        go_wp2_with fail
        go_ret
        exact ⟨ret_boolT (by rw [HRE.out]; rfl), HB.out⟩
/-- The sample, plainly. -/
theorem wake_ok : Tp.ok (funT 1 5) (funT 5 2) = true ∧ Tp.meet (funT 1 5) (funT 5 2) = funT 1 2 ∧ Tp.ok (funT 1 1) (funT 1 2) = false ∧ Tp.ok (.mk 5 0 []) (funT 1 2) = true := by
  refine ⟨?_, ?_, ?_, ?_⟩
  · simp [funT, Tp.ok, Tp.right, Tp.rights, Tp.nodeRight, Tp.arity, Tp.agree, Tp.agrees, Tp.without, Tp.withouts]
  · simp [funT, Tp.meet, Tp.meets]
  · simp [funT, Tp.ok, Tp.right, Tp.rights, Tp.nodeRight, Tp.arity, Tp.agree, Tp.agrees]
  · simp [funT, Tp.ok, Tp.right, Tp.rights, Tp.nodeRight, Tp.arity, Tp.agree, Tp.without, Tp.withouts]
theorem fun_size (x y : Int) : Tp.size (funT x y) ≤ 10000 := by simp [funT, Tp.size, Tp.sizes]
theorem fun_tv (x y : Int) : TV (funT x y) 9 0 2 := ⟨rfl, rfl, rfl⟩

set_option maxRecDepth 100000 in
set_option maxHeartbeats 2000000 in
theorem wakes_any (w : World) : Calls Try.prog 16 #[] w fun e w' => e = .returned (.bool true) ∧ Below w.heap.size w w' := by
  obtain ⟨hok1, hmt, hok2, hok3⟩ := wake_ok
  have hfun := fun x y (hx : I64 x) (hy : I64 y) w1 => fun_any x y hx hy w1
  have h1 : I64 1 := i64_nat (by decide) (by decide)
  have h2 : I64 2 := i64_nat (by decide) (by decide)
  have h5 : I64 5 := i64_nat (by decide) (by decide)
  have hmeet := fun (w1 : World) g1 g2 (ha : TyAt (LT w1.heap.size) w1 (funT 1 5) (some ⟨g1, 0, none⟩) 2) (hb : TyAt (LT w1.heap.size) w1 (funT 5 2) (some ⟨g2, 0, none⟩) 2) => mt_any (fun_tv 1 5) (fun_tv 5 2) ha hb (fun_size 1 5) (fun_size 5 2)
  have hMt : Mt (funT 1 5) (funT 5 2) = funT 1 2 := by unfold Mt; rw [if_pos hok1, hmt]
  have F15 := Lib.hid (fun w1 => fun_any 1 5 h1 h5 w1); have F52 := Lib.hid (fun w1 => fun_any 5 2 h5 h2 w1); have F12 := Lib.hid (fun w1 => fun_any 1 2 h1 h2 w1); have F11 := Lib.hid (fun w1 => fun_any 1 1 h1 h1 w1)
  have L5 := Lib.hid (fun w1 => leaf_any 5 w1); have H5 := Lib.hid h5
  have HM := Lib.hid hmeet; have HMT := Lib.hid hMt; have HOK1 := Lib.hid hok1; have HOK2 := Lib.hid hok2; have HOK3 := Lib.hid hok3
  clear hok1 hmt hok2 hok3 hfun h1 h2 h5 hmeet hMt
  go_enter Try.func16, Try.ntmps16
  go_wp2_with fail
  refine (F15.out w).mono ?_
  rintro e w1 ⟨g1, rfl, ht1, hb1⟩
  have HT1 := Lib.hid ht1; have HB1 := Lib.hid hb1; clear ht1 hb1
  go_wp2_with fail
  refine (F52.out w1).mono ?_
  rintro e w2 ⟨g2, rfl, ht2, hb2⟩
  have HT2 := Lib.hid ht2; have HB2 := Lib.hid hb2; clear ht2 hb2
  go_wp2_with fail
  refine (HM.out w2 g1 g2 (ty_later HT1.out HB2.out) HT2.out).mono ?_
  rintro e w3 ⟨k, n, m, a, c, hv, rfl, ht3, hb3⟩
  rw [HMT.out] at hv ht3
  rw [HOK1.out]
  obtain rfl : (9 : Int) = k := hv.1
  obtain rfl : (0 : Int) = n := hv.2.1
  obtain rfl : 2 = m := hv.2.2
  have HB3 := Lib.hid ((HB1.out.tr HB2.out (Nat.le_refl _)).tr hb3 (Nat.le_refl _))
  obtain ⟨W4, hW4⟩ : ∃ W4, w3.alloc (.cells #[.int .i64 9, .int .i64 0, .slice a 2 c] 24) = W4 := ⟨_, rfl⟩
  have hb4 : Below w3.heap.size w3 W4 := by rw [← hW4]; exact (Below.refl _ _).alloc (Nat.le_refl _) _
  have hbx : BoxT W4 w3.heap.size (funT 1 2) 9 0 2 a c := ⟨hv, by rw [← hW4]; exact World.alloc_heap_new w3 _, ty_later ht3 hb4⟩
  have HB4 := Lib.hid (HB3.out.tr hb4 (Nat.le_refl _)); have HW4 := Lib.hid hW4
  have BX := Lib.hid (hbx.later (Below.refl W4.heap.size W4).drew)
  have HKS := Lib.hid (fun (x : World) g (hb : BoxT x w3.heap.size (funT 1 2) 9 0 2 a c) (ht : TyAt (LT x.heap.size) x (funT 1 2) (some ⟨g, 0, none⟩) 2) => ks_any (w := x) hb.says (fun_tv 1 2) hb.ty ht)
  have HAG := Lib.hid (fun (x : World) g g' (ht : TyAt (LT x.heap.size) x (funT 1 1) (some ⟨g, 0, none⟩) 2) (ht' : TyAt (LT x.heap.size) x (funT 1 2) (some ⟨g', 0, none⟩) 2) => ag_any (w := x) (fun_tv 1 1) (fun_tv 1 2) ht ht' (fun_size 1 1) (fun_size 1 2))
  have HAL := Lib.hid (fun (x : World) (hb : BoxT x w3.heap.size (funT 1 2) 9 0 2 a c) => ag_any (w := x) (t := .mk 5 0 []) (k := 5) (n := 0) (m := 0) (a := none) (c := 0) ⟨rfl, rfl, rfl⟩ hb.says (leaf_at H5.out) hb.ty (by simp [Tp.size, Tp.sizes]) (fun_size 1 2))
  have HSM := Lib.hid (Tp.same_refl (funT 1 2))
  clear hv ht3 hb3 hW4 hb4 hbx
  go_upto_region 2 with fail
  rw [HW4.out]
  obtain ⟨c0, c1, c2⟩ := BX.out.cells
  refine wp_region_seq [(0, false), (0, false), (0, false), (0, true), (0, true), (0, false), (0, false), (0, true), (0, true), (0, true), (0, false), (0, false), (0, false), (1, false), (0, true), (0, true), (0, false), (0, false)] (by kernel_rfl) (by kernel_rfl) (by kernel_rfl) (fun _ _ _ d _ h => by cases d <;> exact h) ?_
  repeat
    first
    | (first | with_reducible refine sp0 (fun K hK => ?_) | with_reducible refine sp1 (fun K hK => ?_) | with_reducible refine sp2 (fun K hK => ?_) | with_reducible refine sp3 (fun K hK => ?_) | with_reducible refine sp4 (fun K hK => ?_)
       go_simp
       first
       | (with_reducible refine hK _ _ ?_; clear hK K)
       | (with_reducible apply Exists.intro
          refine ⟨fun x hx => ?_, hK _ _ ?_⟩
          first
            | (with_reducible exact rfl)
            | (have y0 := keepc hx c0; have y1 := keepc hx c1; have y2 := keepc hx c2; go_simp; done)
            | (have y0 := keepc hx c0; have y1 := keepc hx c1; have y2 := keepc hx c2; go_simp; with_reducible exact rfl)
          clear hK K))
    | (first | with_reducible refine sk0 ?_ (fun K hK => ?_) | with_reducible refine sk1 ?_ (fun K hK => ?_) | with_reducible refine sk2 ?_ (fun K hK => ?_) | with_reducible refine sk3 ?_ (fun K hK => ?_) | with_reducible refine sk4 ?_ (fun K hK => ?_)
       rfl
       go_simp
       with_reducible refine hK _ _ ?_
       clear hK K)
  first | with_reducible refine sc0 (fun K hK => ?_) | with_reducible refine sc1 (fun K hK => ?_) | with_reducible refine sc2 (fun K hK => ?_) | with_reducible refine sc3 (fun K hK => ?_) | with_reducible refine sc4 (fun K hK => ?_)
  go_simp
  refine (F12.out _).mono ?_
  clear c0 c1 c2
  rintro e x1 ⟨g3, rfl, ht, hb⟩
  have BX1 := Lib.hid (BX.out.later hb); have HT3 := Lib.hid ht; have HX1 := Lib.hid (HB4.out.drew.tr hb (Nat.le_refl _))
  obtain ⟨c0, c1, c2⟩ := BX1.out.cells
  refine ⟨hb, hK _ _ ?_⟩
  clear hK K
  clear hb ht
  repeat
    first
    | (first | with_reducible refine sp0 (fun K hK => ?_) | with_reducible refine sp1 (fun K hK => ?_) | with_reducible refine sp2 (fun K hK => ?_) | with_reducible refine sp3 (fun K hK => ?_) | with_reducible refine sp4 (fun K hK => ?_)
       go_simp
       first
       | (with_reducible refine hK _ _ ?_; clear hK K)
       | (with_reducible apply Exists.intro
          refine ⟨fun x hx => ?_, hK _ _ ?_⟩
          first
            | (with_reducible exact rfl)
            | (have y0 := keepc hx c0; have y1 := keepc hx c1; have y2 := keepc hx c2; go_simp; done)
            | (have y0 := keepc hx c0; have y1 := keepc hx c1; have y2 := keepc hx c2; go_simp; with_reducible exact rfl)
          clear hK K))
    | (first | with_reducible refine sk0 ?_ (fun K hK => ?_) | with_reducible refine sk1 ?_ (fun K hK => ?_) | with_reducible refine sk2 ?_ (fun K hK => ?_) | with_reducible refine sk3 ?_ (fun K hK => ?_) | with_reducible refine sk4 ?_ (fun K hK => ?_)
       rfl
       go_simp
       with_reducible refine hK _ _ ?_
       clear hK K)
  first | with_reducible refine sc0 (fun K hK => ?_) | with_reducible refine sc1 (fun K hK => ?_) | with_reducible refine sc2 (fun K hK => ?_) | with_reducible refine sc3 (fun K hK => ?_) | with_reducible refine sc4 (fun K hK => ?_)
  go_simp
  refine (HKS.out _ g3 BX1.out HT3.out).mono ?_
  rw [HSM.out]
  clear c0 c1 c2
  rintro e x2 ⟨rfl, hb⟩
  have BX2 := Lib.hid (BX1.out.later hb); have HX2 := Lib.hid (HX1.out.tr hb (Nat.le_refl _))
  obtain ⟨c0, c1, c2⟩ := BX2.out.cells
  refine ⟨hb, hK _ _ ?_⟩
  clear hK K
  clear hb
  repeat
    first
    | (first | with_reducible refine sp0 (fun K hK => ?_) | with_reducible refine sp1 (fun K hK => ?_) | with_reducible refine sp2 (fun K hK => ?_) | with_reducible refine sp3 (fun K hK => ?_) | with_reducible refine sp4 (fun K hK => ?_)
       go_simp
       first
       | (with_reducible refine hK _ _ ?_; clear hK K)
       | (with_reducible apply Exists.intro
          refine ⟨fun x hx => ?_, hK _ _ ?_⟩
          first
            | (with_reducible exact rfl)
            | (have y0 := keepc hx c0; have y1 := keepc hx c1; have y2 := keepc hx c2; go_simp; done)
            | (have y0 := keepc hx c0; have y1 := keepc hx c1; have y2 := keepc hx c2; go_simp; with_reducible exact rfl)
          clear hK K))
    | (first | with_reducible refine sk0 ?_ (fun K hK => ?_) | with_reducible refine sk1 ?_ (fun K hK => ?_) | with_reducible refine sk2 ?_ (fun K hK => ?_) | with_reducible refine sk3 ?_ (fun K hK => ?_) | with_reducible refine sk4 ?_ (fun K hK => ?_)
       rfl
       go_simp
       with_reducible refine hK _ _ ?_
       clear hK K)
  first | with_reducible refine sc0 (fun K hK => ?_) | with_reducible refine sc1 (fun K hK => ?_) | with_reducible refine sc2 (fun K hK => ?_) | with_reducible refine sc3 (fun K hK => ?_) | with_reducible refine sc4 (fun K hK => ?_)
  go_simp
  refine (F11.out _).mono ?_
  clear c0 c1 c2
  rintro e x3 ⟨g4, rfl, ht, hb⟩
  have BX3 := Lib.hid (BX2.out.later hb); have HT4 := Lib.hid ht; have HX3 := Lib.hid (HX2.out.tr hb (Nat.le_refl _))
  obtain ⟨c0, c1, c2⟩ := BX3.out.cells
  refine ⟨hb, hK _ _ ?_⟩
  clear hK K
  clear hb ht
  repeat
    first
    | (first | with_reducible refine sp0 (fun K hK => ?_) | with_reducible refine sp1 (fun K hK => ?_) | with_reducible refine sp2 (fun K hK => ?_) | with_reducible refine sp3 (fun K hK => ?_) | with_reducible refine sp4 (fun K hK => ?_)
       go_simp
       first
       | (with_reducible refine hK _ _ ?_; clear hK K)
       | (with_reducible apply Exists.intro
          refine ⟨fun x hx => ?_, hK _ _ ?_⟩
          first
            | (with_reducible exact rfl)
            | (have y0 := keepc hx c0; have y1 := keepc hx c1; have y2 := keepc hx c2; go_simp; done)
            | (have y0 := keepc hx c0; have y1 := keepc hx c1; have y2 := keepc hx c2; go_simp; with_reducible exact rfl)
          clear hK K))
    | (first | with_reducible refine sk0 ?_ (fun K hK => ?_) | with_reducible refine sk1 ?_ (fun K hK => ?_) | with_reducible refine sk2 ?_ (fun K hK => ?_) | with_reducible refine sk3 ?_ (fun K hK => ?_) | with_reducible refine sk4 ?_ (fun K hK => ?_)
       rfl
       go_simp
       with_reducible refine hK _ _ ?_
       clear hK K)
  first | with_reducible refine sc0 (fun K hK => ?_) | with_reducible refine sc1 (fun K hK => ?_) | with_reducible refine sc2 (fun K hK => ?_) | with_reducible refine sc3 (fun K hK => ?_) | with_reducible refine sc4 (fun K hK => ?_)
  go_simp
  refine (F12.out _).mono ?_
  clear c0 c1 c2
  rintro e x4 ⟨g5, rfl, ht, hb⟩
  have BX4 := Lib.hid (BX3.out.later hb); have HT5 := Lib.hid ht; have HX4 := Lib.hid (HX3.out.tr hb (Nat.le_refl _)); have HT4' := Lib.hid (ty_later HT4.out hb)
  obtain ⟨c0, c1, c2⟩ := BX4.out.cells
  refine ⟨hb, hK _ _ ?_⟩
  clear hK K
  clear hb ht
  repeat
    first
    | (first | with_reducible refine sp0 (fun K hK => ?_) | with_reducible refine sp1 (fun K hK => ?_) | with_reducible refine sp2 (fun K hK => ?_) | with_reducible refine sp3 (fun K hK => ?_) | with_reducible refine sp4 (fun K hK => ?_)
       go_simp
       first
       | (with_reducible refine hK _ _ ?_; clear hK K)
       | (with_reducible apply Exists.intro
          refine ⟨fun x hx => ?_, hK _ _ ?_⟩
          first
            | (with_reducible exact rfl)
            | (have y0 := keepc hx c0; have y1 := keepc hx c1; have y2 := keepc hx c2; go_simp; done)
            | (have y0 := keepc hx c0; have y1 := keepc hx c1; have y2 := keepc hx c2; go_simp; with_reducible exact rfl)
          clear hK K))
    | (first | with_reducible refine sk0 ?_ (fun K hK => ?_) | with_reducible refine sk1 ?_ (fun K hK => ?_) | with_reducible refine sk2 ?_ (fun K hK => ?_) | with_reducible refine sk3 ?_ (fun K hK => ?_) | with_reducible refine sk4 ?_ (fun K hK => ?_)
       rfl
       go_simp
       with_reducible refine hK _ _ ?_
       clear hK K)
  first | with_reducible refine sc0 (fun K hK => ?_) | with_reducible refine sc1 (fun K hK => ?_) | with_reducible refine sc2 (fun K hK => ?_) | with_reducible refine sc3 (fun K hK => ?_) | with_reducible refine sc4 (fun K hK => ?_)
  go_simp
  refine (HAG.out _ g4 g5 HT4'.out HT5.out).mono ?_
  rw [HOK2.out]
  clear c0 c1 c2
  rintro e x5 ⟨rfl, hb⟩
  have BX5 := Lib.hid (BX4.out.later hb); have HX5 := Lib.hid (HX4.out.tr hb (Nat.le_refl _))
  obtain ⟨c0, c1, c2⟩ := BX5.out.cells
  refine ⟨hb, hK _ _ ?_⟩
  clear hK K
  clear hb
  repeat
    first
    | (first | with_reducible refine sp0 (fun K hK => ?_) | with_reducible refine sp1 (fun K hK => ?_) | with_reducible refine sp2 (fun K hK => ?_) | with_reducible refine sp3 (fun K hK => ?_) | with_reducible refine sp4 (fun K hK => ?_)
       go_simp
       first
       | (with_reducible refine hK _ _ ?_; clear hK K)
       | (with_reducible apply Exists.intro
          refine ⟨fun x hx => ?_, hK _ _ ?_⟩
          first
            | (with_reducible exact rfl)
            | (have y0 := keepc hx c0; have y1 := keepc hx c1; have y2 := keepc hx c2; go_simp; done)
            | (have y0 := keepc hx c0; have y1 := keepc hx c1; have y2 := keepc hx c2; go_simp; with_reducible exact rfl)
          clear hK K))
    | (first | with_reducible refine sk0 ?_ (fun K hK => ?_) | with_reducible refine sk1 ?_ (fun K hK => ?_) | with_reducible refine sk2 ?_ (fun K hK => ?_) | with_reducible refine sk3 ?_ (fun K hK => ?_) | with_reducible refine sk4 ?_ (fun K hK => ?_)
       rfl
       go_simp
       with_reducible refine hK _ _ ?_
       clear hK K)
  first | with_reducible refine sc0 (fun K hK => ?_) | with_reducible refine sc1 (fun K hK => ?_) | with_reducible refine sc2 (fun K hK => ?_) | with_reducible refine sc3 (fun K hK => ?_) | with_reducible refine sc4 (fun K hK => ?_)
  go_simp
  refine (L5.out _).mono ?_
  clear c0 c1 c2
  rintro e x6 ⟨rfl, hb⟩
  have BX6 := Lib.hid (BX5.out.later hb); have HX6 := Lib.hid (HX5.out.tr hb (Nat.le_refl _))
  obtain ⟨c0, c1, c2⟩ := BX6.out.cells
  refine ⟨hb, hK _ _ ?_⟩
  clear hK K
  clear hb
  repeat
    first
    | (first | with_reducible refine sp0 (fun K hK => ?_) | with_reducible refine sp1 (fun K hK => ?_) | with_reducible refine sp2 (fun K hK => ?_) | with_reducible refine sp3 (fun K hK => ?_) | with_reducible refine sp4 (fun K hK => ?_)
       go_simp
       first
       | (with_reducible refine hK _ _ ?_; clear hK K)
       | (with_reducible apply Exists.intro
          refine ⟨fun x hx => ?_, hK _ _ ?_⟩
          first
            | (with_reducible exact rfl)
            | (have y0 := keepc hx c0; have y1 := keepc hx c1; have y2 := keepc hx c2; go_simp; done)
            | (have y0 := keepc hx c0; have y1 := keepc hx c1; have y2 := keepc hx c2; go_simp; with_reducible exact rfl)
          clear hK K))
    | (first | with_reducible refine sk0 ?_ (fun K hK => ?_) | with_reducible refine sk1 ?_ (fun K hK => ?_) | with_reducible refine sk2 ?_ (fun K hK => ?_) | with_reducible refine sk3 ?_ (fun K hK => ?_) | with_reducible refine sk4 ?_ (fun K hK => ?_)
       rfl
       go_simp
       with_reducible refine hK _ _ ?_
       clear hK K)
  first | with_reducible refine sc0 (fun K hK => ?_) | with_reducible refine sc1 (fun K hK => ?_) | with_reducible refine sc2 (fun K hK => ?_) | with_reducible refine sc3 (fun K hK => ?_) | with_reducible refine sc4 (fun K hK => ?_)
  go_simp
  refine (HAL.out _ BX6.out).mono ?_
  rw [HOK3.out]
  clear c0 c1 c2
  rintro e x7 ⟨rfl, hb⟩
  have HX7 := Lib.hid (HX6.out.tr hb (Nat.le_refl _))
  refine ⟨hb, hK _ _ ?_⟩
  clear hK K
  clear hb
  repeat
    first
    | (first | with_reducible refine sp0 (fun K hK => ?_) | with_reducible refine sp1 (fun K hK => ?_) | with_reducible refine sp2 (fun K hK => ?_) | with_reducible refine sp3 (fun K hK => ?_) | with_reducible refine sp4 (fun K hK => ?_)
       go_simp
       first
       | (with_reducible refine hK _ _ ?_; clear hK K)
       | (with_reducible apply Exists.intro
          refine ⟨fun x hx => ?_, hK _ _ ?_⟩
          first
            | (with_reducible exact rfl)
          clear hK K))
    | (first | with_reducible refine sk0 ?_ (fun K hK => ?_) | with_reducible refine sk1 ?_ (fun K hK => ?_) | with_reducible refine sk2 ?_ (fun K hK => ?_) | with_reducible refine sk3 ?_ (fun K hK => ?_) | with_reducible refine sk4 ?_ (fun K hK => ?_)
       rfl
       go_simp
       with_reducible refine hK _ _ ?_
       clear hK K)
  with_reducible refine seq_nil ?_
  go_wp2_with fail
  go_ret
  exact ⟨rfl, HX7.out⟩
end Go.Proofs.Ytopfdggbkckeoaa

/- scheme.graph.compare: what must be the same for one type to be below another. scheme.right and scheme.Under, walked. scheme.Under, walked: is one type under another one? -/
import Derived.Test.YtncdbbjkafgphaaUgW
import Derived.Test.YtncdbbjkafgphaaUgH
import Derived.Test.YtncdbbjkafgphaaPbA
import Derived.Carry
namespace Go.Proofs.Ytncdbbjkafgphaa
open Go Go.RowKit
open Tp (T)
open Ug (Of Rt)
/-- Between two rounds, but for the stack. -/
structure CmS (B gb mb n0 : Nat) (a b : T) (w : World) (H : List GNd) (F : Ug.Fi) (v : Value) (n : Nat) (O : List (T × T)) (wr : World) : Prop where
  cmp : Ug.Cmp a b H F O
  gv : GV B gb (.map (some mb)) v wr H
  vat : VAt wr mb n F
  nl : n ≤ H.length
  keep : Kp w.heap.size (fun z => z = gb ∨ z = mb) w wr
  vown : ∀ z, v.ownBlock = some z → w.heap.size ≤ z
/-- .. and the stack. -/
structure CmR (n0 : Nat) (w : World) (R : List En3) (v7 : Value) (wr : World) : Prop where
  each : ∀ e ∈ R, e.lie n0 wr
  row : wr.ownsRow w.heap.size 82 6 v7 R.length (st3Cells R.reverse)
theorem CmS.block {B gb mb n0 : Nat} {a b : T} {w : World} {H : List GNd} {F : Ug.Fi} {v : Value} {n : Nat} {O : List (T × T)} {wr w' : World} (h : CmS B gb mb n0 a b w H F v n O wr) (hk : Kp wr.heap.size (fun _ => False) wr w') : CmS B gb mb n0 a b w H F v n O w' :=
  ⟨h.cmp, h.gv.same (hk.block gb (Array.getElem?_eq_some_iff.1 h.gv.box).1 (fun h => h)) (fun z hz => hk.block z (arm_low h.gv z hz) (fun h => h)), h.vat.same (hk.block mb h.vat.lt (fun h => h)), h.nl, h.keep.trans (hk.mono h.keep.size (fun _ _ h => h.elim)), h.vown⟩
theorem CmR.block {n0 : Nat} {w : World} {R : List En3} {v7 : Value} {wr w' : World} (h : CmR n0 w R v7 wr) (hn : n0 ≤ wr.heap.size) (hk : Kp wr.heap.size (fun _ => False) wr w') : CmR n0 w R v7 w' :=
  ⟨fun e he => (h.each e he).same (fun z hz => hk.block z (by omega) (fun h => h)), own_same h.row (fun z hz => hk.block z (h.row.lt z hz).2 (fun h => h))⟩
/-- What turns the graph alone leaves the stack. -/
theorem CmR.graph {B gb mb n0 : Nat} {m v : Value} {w : World} {R : List En3} {v7 : Value} {wr w' : World} {H : List GNd} {F : Ug.Fi} {n : Nat} (h : CmR n0 w R v7 wr) (hn : n0 ≤ B) (hB : B ≤ mb) (hg : GV B gb m v wr H) (hv : VAt wr mb n F) (hk : Kp wr.heap.size (AdM gb mb v) wr w') : CmR n0 w R v7 w' := by
  have hvl : ∀ z, v.ownBlock = some z → B ≤ z := fun z hz => by obtain ⟨G, _, hown⟩ := hg.row; exact (hown.lt z hz).1
  have hglt := (Array.getElem?_eq_some_iff.1 hg.box).1
  have hlo := hg.lo
  refine ⟨fun e he => (h.each e he).same (fun z hz => hk.block z (by omega) (fun hM => ?_)), own_same h.row (fun z hz => ?_)⟩
  · rcases hM with rfl | rfl | hM
    · omega
    · omega
    · have := hvl z hM; omega
  · obtain ⟨h1, A, h2⟩ := own_block h.row hz
    refine hk.block z h1 (fun hM => ?_)
    rcases hM with rfl | rfl | hM
    · exact own_ne h.row hg.box (by decide) hz
    · obtain ⟨o, ho, hno⟩ := vat_block hv
      rw [h2] at ho; injection ho with ho; exact hno _ _ ho.symm
    · obtain ⟨G, _, hown⟩ := hg.row
      exact gv_far hown h2 (fun A h => by injection h with _ h; exact absurd h (by decide)) hM
theorem csz_less {x y : T} {O : List (T × T)} : Ug.csz O < Ug.csz ((x, y) :: O) := by
  have h1 := Tp.size_pos x
  rw [Ug.csz_cons]; dsimp only; omega
theorem csz_kids {x y : T} {O : List (T × T)} (h : x.kids.length = y.kids.length) : Ug.csz (Ug.kq x y ++ O) < Ug.csz ((x, y) :: O) := by
  rw [Ug.csz_append, Ug.csz_kq h, Ug.csz_cons]
  have h2 : Tp.size x = Tp.sizes x.kids + 1 := by cases x; rfl
  have h3 : Tp.size y = Tp.sizes y.kids + 1 := by cases y; rfl
  dsimp only; omega
theorem csz_len : ∀ R : List En3, R.length ≤ Ug.csz (R.map En3.key)
  | [] => by simp
  | e :: R => by
    have ih := csz_len R
    have := Tp.size_pos (En3.key e).1
    rw [List.map_cons, Ug.csz_cons, List.length_cons]; omega
theorem CmS.stack {B gb mb n0 g : Nat} {a b : T} {w : World} {H : List GNd} {F : Ug.Fi} {v : Value} {n : Nat} {O : List (T × T)} {wr w' : World} {A : Array Value} (h : CmS B gb mb n0 a b w H F v n O wr) (hgA : wr.heap[g]? = some (.cells A 82)) (hge : w.heap.size ≤ g) (hk : Kp wr.heap.size (fun z => some g = some z) wr w') : CmS B gb mb n0 a b w H F v n O w' := by
  refine ⟨h.cmp, h.gv.same (hk.block gb (Array.getElem?_eq_some_iff.1 h.gv.box).1 (fun e => ?_)) (fun z hz => hk.block z (arm_low h.gv z hz) (fun e => ?_)), h.vat.same (hk.block mb h.vat.lt (fun e => ?_)), h.nl, h.keep.trans (hk.mono h.keep.size (fun z hz e => ?_)), h.vown⟩
  · injection e with e; have := h.gv.box; rw [← e, hgA] at this; injection this with this; injection this with _ this; exact absurd this (by decide)
  · injection e with e
    obtain ⟨G, _, hown⟩ := h.gv.row
    exact gv_far hown (e ▸ hgA) (fun A h => by injection h with _ h; exact absurd h (by decide)) hz
  · injection e with e
    obtain ⟨o, ho, hno⟩ := vat_block h.vat
    rw [← e, hgA] at ho; injection ho with ho; exact hno _ _ ho.symm
  · injection e with e; omega
theorem CmS.next {B gb mb n0 : Nat} {a b : T} {w : World} {H : List GNd} {F : Ug.Fi} {v : Value} {n : Nat} {O O' : List (T × T)} {wr : World} (h : CmS B gb mb n0 a b w H F v n O wr) (hc : Ug.Cmp a b H F O') : CmS B gb mb n0 a b w H F v n O' wr := ⟨hc, h.gv, h.vat, h.nl, h.keep, h.vown⟩
/-- A pair's box stays where the graph alone is turned. -/
theorem cb_keep {B gb mb n cb : Nat} {m v : Value} {w w' : World} {H : List GNd} {F : Ug.Fi} {A : Array Value} (hg : GV B gb m v w H) (hv : VAt w mb n F) (hb : w.heap[cb]? = some (.cells A 82)) (hk : Kp w.heap.size (AdM gb mb v) w w') : w'.heap[cb]? = w.heap[cb]? := by
  refine hk.block cb (Array.getElem?_eq_some_iff.1 hb).1 (fun hM => ?_)
  rcases hM with rfl | rfl | hM
  · have := hg.box; rw [hb] at this; injection this with this; injection this with _ this; exact absurd this (by decide)
  · obtain ⟨o, ho, hno⟩ := vat_block hv
    rw [hb] at ho; injection ho with ho; exact hno _ _ ho.symm
  · obtain ⟨G, _, hown⟩ := hg.row
    exact gv_far hown hb (fun A h => by injection h with _ h; exact absurd h (by decide)) hM
/-- A block stays. -/
structure Rcb (cb : Nat) (p q : World) : Prop where
  size : p.heap.size ≤ q.heap.size
  blk : q.heap[cb]? = p.heap[cb]?
theorem adm_low {B gb mb z : Nat} {m v : Value} {w : World} {H : List GNd} (hg : GV B gb m v w H) (hB : B ≤ mb) (hM : AdM gb mb v z) (hz : z < B) : False := by
  have := hg.lo
  rcases hM with rfl | rfl | hM
  · omega
  · omega
  · obtain ⟨G, _, hown⟩ := hg.row; have := (hown.lt z hM).1; omega
theorem adm_keep {gb mb n : Nat} {v : Value} {a b : World} (hk : Kp a.heap.size (AdM gb mb v) a b) (hn : n ≤ a.heap.size) (hv : ∀ z, v.ownBlock = some z → n ≤ z) : Kp n (fun z => z = gb ∨ z = mb) a b :=
  hk.mono hn (fun z hz hM => by
    rcases hM with rfl | rfl | hM
    · exact .inl rfl
    · exact .inr rfl
    · have := hv z hM; omega)
theorem vown_two {n m : Nat} {v v' : Value} (h : ∀ z, v'.ownBlock = some z → m ≤ z ∨ v.ownBlock = some z) (hm : n ≤ m) (hv : ∀ z, v.ownBlock = some z → n ≤ z) : ∀ z, v'.ownBlock = some z → n ≤ z := fun z hz => (h z hz).elim (fun h => Nat.le_trans hm h) (hv z)
theorem add_full {H : List GNd} {F : Ug.Fi} {o : Int} {t : T} {l : List T} {H' : List GNd} {F' : Ug.Fi} (h : Ug.Add H F o t l.length l H' F') : H'.length = H.length + Tp.size t ∧ Ug.Wf H' H'.length := by
  have h1 := h.size
  rw [List.drop_length] at h1
  simp only [Tp.sizes] at h1
  have h2 := h.len
  refine ⟨by omega, ?_⟩
  rw [h2]; exact h.wf
def CmPost (B gb mb : Nat) (a b : T) (w : World) (e : Ending) (w' : World) : Prop := Kp w.heap.size (fun z => z = gb ∨ z = mb) w w' ∧ ∃ r, e = .returned (.bool r) ∧
  (r = true → ∃ H F v, Ug.Cmp a b H F [] ∧ GV B gb (.map (some mb)) v w' H ∧ ∀ z, v.ownBlock = some z → w.heap.size ≤ z) ∧ (r = false → ¬ ∃ s, Ug.Clos s ∧ Tp.below (Tp.app (s 0) a) (Tp.app (s 1) b) = true)
set_option maxRecDepth 100000 in
set_option maxHeartbeats 8000000 in
theorem compare_any (B gb mb n0 : Nat) (a b : T) (aa : Option Addr) (ac : Nat) (ba : Option Addr) (bc : Nat) (w : World) (h : GV B gb (.map (some mb)) (.slice none 0 0) w []) (hm : VAt w mb 0 (fun _ _ => none)) (hmB : B ≤ mb) (hnB : n0 ≤ B) (ha : Tp.right a = true) (hb : Tp.right b = true)
    (hta : TyAt (LT n0) w a aa ac) (htb : TyAt (LT n0) w b ba bc) (hsz : Tp.size a + Tp.size b ≤ 1000000) :
    Calls Try.prog 41 #[.pointer (some ⟨gb, 0, none⟩), tv a aa ac, tv b ba bc] w (CmPost B gb mb a b w) := by
  obtain ⟨ak, an, am, hva⟩ := TV.mk a
  obtain ⟨bk, bn, bm, hvb⟩ := TV.mk b
  rw [tv_of hva, tv_of hvb]
  have hgl : gb < w.heap.size := (Array.getElem?_eq_some_iff.1 h.box).1
  have hBw : B ≤ w.heap.size := Nat.le_trans h.lo (Nat.le_of_lt hgl)
  obtain ⟨W3, hW3⟩ : ∃ W, ((w.alloc (.cells #[.int .i64 ak, .int .i64 an, .slice aa am ac] 24)).alloc (.cells #[.int .i64 bk, .int .i64 bn, .slice ba bm bc] 24)).alloc
        (.cells #[.int .i64 ak, .int .i64 an, .slice aa am ac, .int .i64 bk, .int .i64 bn, .slice ba bm bc] 82) = W := ⟨_, rfl⟩
  have hk3 : Kp w.heap.size (fun _ => False) w W3 := by rw [← hW3]; exact (((Kp.refl _ _ _).alloc (Nat.le_refl _) _).alloc (by simp) _).alloc (by simp; omega) _
  have hx3 : W3.heap[w.heap.size + 1 + 1]? = some (.cells #[.int .i64 ak, .int .i64 an, .slice aa am ac, .int .i64 bk, .int .i64 bn, .slice ba bm bc] 82) := by
    have := World.alloc_heap_new ((w.alloc (.cells #[.int .i64 ak, .int .i64 an, .slice aa am ac] 24)).alloc (.cells #[.int .i64 bk, .int .i64 bn, .slice ba bm bc] 24)) (.cells #[.int .i64 ak, .int .i64 an, .slice aa am ac, .int .i64 bk, .int .i64 bn, .slice ba bm bc] 82)
    rw [World.size_alloc, World.size_alloc, hW3] at this; exact this
  have hs3 : CmS B gb mb n0 a b w [] (fun _ _ => none) (.slice none 0 0) 0 [(a, b)] W3 := by
    refine CmS.block ⟨Ug.Cmp.start ha hb, h, hm, Nat.zero_le _, Kp.refl _ _ _, fun z hz => by cases hz⟩ hk3
  have hr3 : CmR n0 w [⟨a, aa, ac, b, ba, bc⟩] (.slice (some ⟨w.heap.size + 1 + 1, 0, none⟩) 1 1) W3 := by
    refine ⟨fun e he => ?_, ?_⟩
    · obtain rfl := List.mem_singleton.1 he
      exact En3.lie.same (w := w) ⟨hta, htb⟩ (fun z hz => hk3.block z (by omega) (fun h => h))
    · have := own_mk (B := w.heap.size) (sz := 6) (n := 1) (cap := 1) hx3 (by omega) (Nat.le_refl _) (by unfold maxLen; omega) rfl
      simp only [st3Cells, en3Cells, List.reverse_singleton, List.flatMap_cons, List.flatMap_nil, hva.1, hva.2.1, hva.2.2, hvb.1, hvb.2.1, hvb.2.2]
      exact this
  have HS3 := Lib.hid hs3; have HR3 := Lib.hid hr3; have HW3 := Lib.hid hW3; have HGL := Lib.hid hgl; have HBW := Lib.hid hBw; have HMB := Lib.hid hmB; have HNB := Lib.hid hnB; have HSZ := Lib.hid hsz; have HLO := Lib.hid h.lo; have HML := Lib.hid hm.lt
  clear hs3 hr3 hW3 hgl hBw hmB hnB hsz hk3 hx3 h hm ha hb hta htb hva hvb
  go_enter Try.func41, Try.ntmps41
  go_upto_region 2 with fail
  rw [HW3.out]
  go_loopg [7] (Ug.csz [(a, b)]) (fun gk v7 wr => ∃ (R : List En3) (H : List GNd) (F : Ug.Fi) (v : Value) (n : Nat), CmS B gb mb n0 a b w H F v n (R.map En3.key) wr ∧ CmR n0 w R v7 wr ∧ gk = Ug.csz (R.map En3.key))
  case atStart => exact ⟨_, _, _, _, _, HS3.out, HR3.out, rfl⟩
  case round =>
    obtain ⟨R, H, F, v, n, hs, hr, rfl⟩ := hrel
    have HS := Lib.hid hs; have HRR := Lib.hid hr
    clear hs hr HS3 HR3
    cases R with
    | nil =>
      obtain ⟨av, cv, rfl⟩ := own_shapeT HRR.out.row
      go_wp2_with fail
      go_ret
      exact ⟨HS.out.keep, true, rfl, fun _ => ⟨H, F, v, HS.out.cmp, HS.out.gv, HS.out.vown⟩, fun h => by cases h⟩
    | cons e R =>
      obtain ⟨g, cap3, rfl, hg1, hg2, hcp, hcm, hcl, hown⟩ := own_top6 (v := u7) HRR.out.row
      have hgood := HRR.out.each e (by simp)
      obtain ⟨x, xa, xcap, y, ya, ycap⟩ := e
      obtain ⟨hxty, hyty⟩ := id hgood
      obtain ⟨xk, xn, xm, hvx⟩ := TV.mk x
      obtain ⟨yk, yn, ym, hvy⟩ := TV.mk y
      obtain ⟨r, hr⟩ : ∃ z, R.length = z := ⟨_, rfl⟩
      have hx0 := hcl 0 _ rfl; rw [Nat.add_zero] at hx0; have hx1 := hcl 1 _ rfl; have hx2 := hcl 2 _ rfl; have hy0 := hcl 3 _ rfl; have hy1 := hcl 4 _ rfl; have hy2 := hcl 5 _ rfl
      dsimp only at hx0 hx1 hx2 hy0 hy1 hy2 hxty hyty
      rw [hvx.1] at hx0; rw [hvx.2.1] at hx1; rw [hvx.2.2] at hx2; rw [hvy.1] at hy0; rw [hvy.2.1] at hy1; rw [hvy.2.2] at hy2
      rw [hr] at hx0 hx1 hx2 hy0 hy1 hy2 hcp hown ⊢
      have hcmp := HS.out.cmp
      rw [List.map_cons] at hcmp
      change Ug.Cmp a b H F ((x, y) :: R.map En3.key) at hcmp
      have hpop := cp_pop g (r + 1) cap3 r (by omega) hcp
      have hwr : wrap64 (r : Int) = (r : Int) := by unfold wrap64; unfold maxLen at hcm; omega
      obtain ⟨i1, i2⟩ := pt_int (Nat.lt_succ_self r)
      have i3 : (r : Int) < (r : Int) + 1 := Int.lt_succ _
      have hrest : CmR n0 w R (.slice (some ⟨g, 0, none⟩) r cap3) wr := ⟨fun e' he => HRR.out.each e' (List.mem_cons_of_mem _ he), by rw [hr]; exact hown⟩
      have hk2 : Kp wr.heap.size (fun _ => False) wr (wr.alloc (.cells #[.int .i64 xk, .int .i64 xn, .slice xa xm xcap, .int .i64 yk, .int .i64 yn, .slice ya ym ycap] 82)) := (Kp.refl _ _ _).alloc (Nat.le_refl _) _
      have hnw : n0 ≤ wr.heap.size := by have := HNB.out; have := HBW.out; have := HS.out.keep.size; omega
      have hs2 := HS.out.block hk2
      have hr2 := hrest.block hnw hk2
      have hx2' : (wr.alloc (.cells #[.int .i64 xk, .int .i64 xn, .slice xa xm xcap, .int .i64 yk, .int .i64 yn, .slice ya ym ycap] 82)).heap[wr.heap.size]? = some (.cells #[.int .i64 xk, .int .i64 xn, .slice xa xm xcap, .int .i64 yk, .int .i64 yn, .slice ya ym ycap] 82) := World.alloc_heap_new _ _
      have hty2 : TyAt (LT n0) (wr.alloc (.cells #[.int .i64 xk, .int .i64 xn, .slice xa xm xcap, .int .i64 yk, .int .i64 yn, .slice ya ym ycap] 82)) x xa xcap ∧ TyAt (LT n0) (wr.alloc (.cells #[.int .i64 xk, .int .i64 xn, .slice xa xm xcap, .int .i64 yk, .int .i64 yn, .slice ya ym ycap] 82)) y ya ycap :=
        ⟨ty_same (fun z hz => hk2.block z (Nat.lt_of_lt_of_le hz hnw) (fun h => h)) (fun _ h => h) hxty, ty_same (fun z hz => hk2.block z (Nat.lt_of_lt_of_le hz hnw) (fun h => h)) (fun _ h => h) hyty⟩
      have HWR := Lib.hid hwr; have HCMP := Lib.hid hcmp; have HR := Lib.hid hr; have HVX := Lib.hid hvx; have HVY := Lib.hid hvy; have HS2 := Lib.hid hs2; have HR2 := Lib.hid hr2; have HX2 := Lib.hid hx2'; have HTY := Lib.hid hty2
      clear hcl hgood hxty hyty hown hg1 hr hvx hvy hcm hcmp hrest hs2 hr2 hx2' hty2 hwr hnw hk2 HRR
      go_upto_region 4 with fail
      rw [HWR.out]
      go_upto_region 5 with fail
      obtain ⟨cb, hcb⟩ : ∃ n, wr.heap.size = n := ⟨_, rfl⟩
      rw [hcb] at HX2 ⊢
      generalize wr.alloc (.cells #[.int .i64 xk, .int .i64 xn, .slice xa xm xcap, .int .i64 yk, .int .i64 yn, .slice ya ym ycap] 82) = W2 at HS2 HR2 HX2 HTY ⊢
      have c0 := cell_box (i := 0) HX2.out rfl rfl
      have c3 := cell_box (i := 3) HX2.out rfl rfl
      clear hx0 hx1 hx2 hy0 hy1 hy2 i1 i2 i3 hcb
      by_cases hd : yk = 5
      · have gd : (yk == 5) = true := by simp [hd]
        have HN := Lib.hid (HS2.out.next (HCMP.out.drop (by rw [HVY.out.1]; exact hd)))
        clear hd
        go_wp2_with fail
        go_roundg (Ug.csz (R.map En3.key))
        case measure => rw [List.map_cons]; exact csz_less
        case rel => exact ⟨R, H, F, v, n, HN.out, by rw [← HR.out] at HR2 ⊢; exact HR2.out, rfl⟩
      · have gd : (yk == 5) = false := by simp [hd]
        by_cases hv6 : xk = 6 ∨ yk = 6
        · have hrx := (HCMP.out.rt (x, y) (by simp)).1
          have hry := (HCMP.out.rt (x, y) (by simp)).2
          dsimp only at hrx hry
          have hsx : Tp.size x ≤ 1000000 ∧ H.length + Tp.size x + Tp.size y ≤ 1000000 := by
            have h1 := HCMP.out.sz
            rw [Ug.csz_cons] at h1
            have h3 := HSZ.out
            dsimp only at h1
            omega
          have HSX := Lib.hid hsx; have HRX := Lib.hid hrx; have HRY := Lib.hid hry; have HV6 := Lib.hid hv6
          have hx6 : (xk == 6) = true ∨ ((xk == 6) = false ∧ (yk == 6) = true) := by
            by_cases h : xk = 6
            · exact .inl (by simp [h])
            · exact .inr ⟨by simp [h], by simp [hv6.resolve_left h]⟩
          have hst9 : W2.heap[cb]? = some (.cells #[.int .i64 xk, .int .i64 xn, .slice xa xm xcap, .int .i64 yk, .int .i64 yn, .slice ya ym ycap] 82) := HX2.out
          clear hsx hrx hry hd hv6
          cases hst : Tp.without 5 x with
          | false =>
            have HSTAT := Lib.hid hst
            have HNW2 := Lib.hid (show n0 ≤ W2.heap.size by have := HNB.out; have := HBW.out; have := HS2.out.keep.size; omega)
            clear hst hst9
            rcases hx6 with h6 | ⟨h6, h6'⟩
            all_goals
              go_upto_region 9 with fail
              clear c0 c3
              refine wp_region_rel (R := Rcb cb) (fun _ => ⟨Nat.le_refl _, rfl⟩) (fun h1 h2 => ⟨Nat.le_trans h1.size h2.size, h2.blk.trans h1.blk⟩) [(0, false), (0, false), (0, true), (0, false), (0, false), (0, false), (0, false), (0, false), (0, false), (1, false), (1, false), (1, false), (0, true), (0, true), (0, true), (0, false), (0, false)] (by kernel_rfl) (by kernel_rfl) (by kernel_rfl) (fun _ _ _ d _ h => by cases d <;> exact h) ?_
              have HBX1 := Lib.hid (show W2.drew.heap[cb]? = some (.cells #[.int .i64 xk, .int .i64 xn, .slice xa xm xcap, .int .i64 yk, .int .i64 yn, .slice ya ym ycap] 82) from HX2.out)
              have HSD := Lib.hid (HS2.out.block (Kp.refl W2.heap.size (fun _ => False) W2).drew)
              have HRD := Lib.hid (HR2.out.block HNW2.out (Kp.refl W2.heap.size (fun _ => False) W2).drew)
              have HTD := Lib.hid (show TyAt (LT n0) W2.drew x xa xcap ∧ TyAt (LT n0) W2.drew y ya ycap from ⟨ty_same (w := W2) (w' := W2.drew) (fun _ _ => rfl) (fun _ h => h) HTY.out.1, ty_same (w := W2) (w' := W2.drew) (fun _ _ => rfl) (fun _ h => h) HTY.out.2⟩)
              have HND := Lib.hid (show n0 ≤ W2.drew.heap.size from HNW2.out)
              generalize W2.drew = wD at HBX1 HSD HRD HTD HND ⊢
              repeat
                first
                | (first | with_reducible refine rp0 (fun K hK => ?_) | with_reducible refine rp1 (fun K hK => ?_) | with_reducible refine rp2 (fun K hK => ?_) | with_reducible refine rp3 (fun K hK => ?_) | with_reducible refine rp4 (fun K hK => ?_)
                   go_simp
                   first
                   | (with_reducible refine hK _ _ ?_; clear hK K)
                   | (with_reducible apply Exists.intro
                      refine ⟨fun x hx => ?_, hK _ _ ?_⟩
                      first
                        | (with_reducible exact rfl)
                        | (have y0 := (cell_box (i := 0) HBX1.out hx.blk rfl); have y1 := (cell_box (i := 1) HBX1.out hx.blk rfl); have y2 := (cell_box (i := 2) HBX1.out hx.blk rfl); have y3 := (cell_box (i := 3) HBX1.out hx.blk rfl); have y4 := (cell_box (i := 4) HBX1.out hx.blk rfl); have y5 := (cell_box (i := 5) HBX1.out hx.blk rfl); go_simp; done)
                        | (have y0 := (cell_box (i := 0) HBX1.out hx.blk rfl); have y1 := (cell_box (i := 1) HBX1.out hx.blk rfl); have y2 := (cell_box (i := 2) HBX1.out hx.blk rfl); have y3 := (cell_box (i := 3) HBX1.out hx.blk rfl); have y4 := (cell_box (i := 4) HBX1.out hx.blk rfl); have y5 := (cell_box (i := 5) HBX1.out hx.blk rfl); go_simp; with_reducible exact rfl)
                      clear hK K))
                | (first | with_reducible refine rk0 ?_ (fun K hK => ?_) | with_reducible refine rk1 ?_ (fun K hK => ?_) | with_reducible refine rk2 ?_ (fun K hK => ?_) | with_reducible refine rk3 ?_ (fun K hK => ?_) | with_reducible refine rk4 ?_ (fun K hK => ?_)
                   rfl
                   go_simp
                   with_reducible refine hK _ _ ?_
                   clear hK K)
              first | with_reducible refine rc0 (fun K hK => ?_) | with_reducible refine rc1 (fun K hK => ?_) | with_reducible refine rc2 (fun K hK => ?_) | with_reducible refine rc3 (fun K hK => ?_) | with_reducible refine rc4 (fun K hK => ?_)
              go_simp
              have hst := static_any x xa xcap wD HSX.out.1 (ty_same (G' := LT wD.heap.size) (fun _ _ => rfl) (fun _ h => Nat.lt_of_lt_of_le h HND.out) HTD.out.1)
              rw [tv_of HVX.out, HSTAT.out] at hst
              refine hst.mono ?_
              rintro e w3 ⟨rfl, hb3⟩
              have hbx3 := (hb3.block cb (Array.getElem?_eq_some_iff.1 HBX1.out).1).trans HBX1.out
              refine ⟨⟨hb3.size, hb3.block cb (Array.getElem?_eq_some_iff.1 HBX1.out).1⟩, hK _ _ ?_⟩
              clear hK K
              have HBX3 := Lib.hid hbx3
              have HK3 := Lib.hid (Kp.of_below (M := fun _ => False) hb3)
              have HS3 := Lib.hid (HSD.out.block HK3.out)
              have HR3 := Lib.hid (HRD.out.block HND.out HK3.out)
              clear hbx3 hb3 hst
              repeat
                first
                | (first | with_reducible refine rp0 (fun K hK => ?_) | with_reducible refine rp1 (fun K hK => ?_) | with_reducible refine rp2 (fun K hK => ?_) | with_reducible refine rp3 (fun K hK => ?_) | with_reducible refine rp4 (fun K hK => ?_)
                   go_simp
                   first
                   | (with_reducible refine hK _ _ ?_; clear hK K)
                   | (with_reducible apply Exists.intro
                      refine ⟨fun x hx => ?_, hK _ _ ?_⟩
                      first
                        | (with_reducible exact rfl)
                        | (have y0 := (cell_box (i := 0) HBX3.out hx.blk rfl); have y1 := (cell_box (i := 1) HBX3.out hx.blk rfl); have y2 := (cell_box (i := 2) HBX3.out hx.blk rfl); have y3 := (cell_box (i := 3) HBX3.out hx.blk rfl); have y4 := (cell_box (i := 4) HBX3.out hx.blk rfl); have y5 := (cell_box (i := 5) HBX3.out hx.blk rfl); go_simp; done)
                        | (have y0 := (cell_box (i := 0) HBX3.out hx.blk rfl); have y1 := (cell_box (i := 1) HBX3.out hx.blk rfl); have y2 := (cell_box (i := 2) HBX3.out hx.blk rfl); have y3 := (cell_box (i := 3) HBX3.out hx.blk rfl); have y4 := (cell_box (i := 4) HBX3.out hx.blk rfl); have y5 := (cell_box (i := 5) HBX3.out hx.blk rfl); go_simp; with_reducible exact rfl)
                      clear hK K))
                | (first | with_reducible refine rk0 ?_ (fun K hK => ?_) | with_reducible refine rk1 ?_ (fun K hK => ?_) | with_reducible refine rk2 ?_ (fun K hK => ?_) | with_reducible refine rk3 ?_ (fun K hK => ?_) | with_reducible refine rk4 ?_ (fun K hK => ?_)
                   rfl
                   go_simp
                   with_reducible refine hK _ _ ?_
                   clear hK K)
              with_reducible refine rel_nil ?_
              have HNO := Lib.hid (HCMP.out.dyn (by rw [HVX.out.1, HVY.out.1]; exact HV6.out) HSTAT.out)
              go_wp2_with fail
              go_ret
              exact ⟨HS3.out.keep, false, rfl, (fun h => by cases h), fun _ => HNO.out⟩
          | true =>
            have HSTAT := Lib.hid hst
            have HNW2 := Lib.hid (show n0 ≤ W2.heap.size by have := HNB.out; have := HBW.out; have := HS2.out.keep.size; omega)
            clear hst hst9
            rcases hx6 with h6 | ⟨h6, h6'⟩
            all_goals
              go_upto_region 9 with fail
              clear c0 c3
              refine wp_region_rel (R := Rcb cb) (fun _ => ⟨Nat.le_refl _, rfl⟩) (fun h1 h2 => ⟨Nat.le_trans h1.size h2.size, h2.blk.trans h1.blk⟩) [(0, false), (0, false), (0, true), (0, false), (0, false), (0, false), (0, false), (0, false), (0, false), (1, false), (1, false), (1, false), (0, true), (0, true), (0, true), (0, false), (0, false)] (by kernel_rfl) (by kernel_rfl) (by kernel_rfl) (fun _ _ _ d _ h => by cases d <;> exact h) ?_
              have HBX1 := Lib.hid (show W2.drew.heap[cb]? = some (.cells #[.int .i64 xk, .int .i64 xn, .slice xa xm xcap, .int .i64 yk, .int .i64 yn, .slice ya ym ycap] 82) from HX2.out)
              have HSD := Lib.hid (HS2.out.block (Kp.refl W2.heap.size (fun _ => False) W2).drew)
              have HRD := Lib.hid (HR2.out.block HNW2.out (Kp.refl W2.heap.size (fun _ => False) W2).drew)
              have HTD := Lib.hid (show TyAt (LT n0) W2.drew x xa xcap ∧ TyAt (LT n0) W2.drew y ya ycap from ⟨ty_same (w := W2) (w' := W2.drew) (fun _ _ => rfl) (fun _ h => h) HTY.out.1, ty_same (w := W2) (w' := W2.drew) (fun _ _ => rfl) (fun _ h => h) HTY.out.2⟩)
              have HND := Lib.hid (show n0 ≤ W2.drew.heap.size from HNW2.out)
              generalize W2.drew = wD at HBX1 HSD HRD HTD HND ⊢
              repeat
                first
                | (first | with_reducible refine rp0 (fun K hK => ?_) | with_reducible refine rp1 (fun K hK => ?_) | with_reducible refine rp2 (fun K hK => ?_) | with_reducible refine rp3 (fun K hK => ?_) | with_reducible refine rp4 (fun K hK => ?_)
                   go_simp
                   first
                   | (with_reducible refine hK _ _ ?_; clear hK K)
                   | (with_reducible apply Exists.intro
                      refine ⟨fun x hx => ?_, hK _ _ ?_⟩
                      first
                        | (with_reducible exact rfl)
                        | (have y0 := (cell_box (i := 0) HBX1.out hx.blk rfl); have y1 := (cell_box (i := 1) HBX1.out hx.blk rfl); have y2 := (cell_box (i := 2) HBX1.out hx.blk rfl); have y3 := (cell_box (i := 3) HBX1.out hx.blk rfl); have y4 := (cell_box (i := 4) HBX1.out hx.blk rfl); have y5 := (cell_box (i := 5) HBX1.out hx.blk rfl); go_simp; done)
                        | (have y0 := (cell_box (i := 0) HBX1.out hx.blk rfl); have y1 := (cell_box (i := 1) HBX1.out hx.blk rfl); have y2 := (cell_box (i := 2) HBX1.out hx.blk rfl); have y3 := (cell_box (i := 3) HBX1.out hx.blk rfl); have y4 := (cell_box (i := 4) HBX1.out hx.blk rfl); have y5 := (cell_box (i := 5) HBX1.out hx.blk rfl); go_simp; with_reducible exact rfl)
                      clear hK K))
                | (first | with_reducible refine rk0 ?_ (fun K hK => ?_) | with_reducible refine rk1 ?_ (fun K hK => ?_) | with_reducible refine rk2 ?_ (fun K hK => ?_) | with_reducible refine rk3 ?_ (fun K hK => ?_) | with_reducible refine rk4 ?_ (fun K hK => ?_)
                   rfl
                   go_simp
                   with_reducible refine hK _ _ ?_
                   clear hK K)
              first | with_reducible refine rc0 (fun K hK => ?_) | with_reducible refine rc1 (fun K hK => ?_) | with_reducible refine rc2 (fun K hK => ?_) | with_reducible refine rc3 (fun K hK => ?_) | with_reducible refine rc4 (fun K hK => ?_)
              go_simp
              have hst := static_any x xa xcap wD HSX.out.1 (ty_same (G' := LT wD.heap.size) (fun _ _ => rfl) (fun _ h => Nat.lt_of_lt_of_le h HND.out) HTD.out.1)
              rw [tv_of HVX.out, HSTAT.out] at hst
              refine hst.mono ?_
              rintro e w3 ⟨rfl, hb3⟩
              have hbx3 := (hb3.block cb (Array.getElem?_eq_some_iff.1 HBX1.out).1).trans HBX1.out
              refine ⟨⟨hb3.size, hb3.block cb (Array.getElem?_eq_some_iff.1 HBX1.out).1⟩, hK _ _ ?_⟩
              clear hK K
              have HBX3 := Lib.hid hbx3
              have HK3 := Lib.hid (Kp.of_below (M := fun _ => False) hb3)
              have HS3 := Lib.hid (HSD.out.block HK3.out)
              have HR3 := Lib.hid (HRD.out.block HND.out HK3.out)
              clear hbx3 hb3 hst
              have HT3 := Lib.hid (show TyAt (LT B) w3 x xa xcap ∧ TyAt (LT n0) w3 y ya ycap from ⟨ty_same (fun z hz => HK3.out.block z (Nat.lt_of_lt_of_le hz HND.out) (fun h => h)) (fun _ h => Nat.lt_of_lt_of_le h HNB.out) HTD.out.1, ty_same (fun z hz => HK3.out.block z (Nat.lt_of_lt_of_le hz HND.out) (fun h => h)) (fun _ h => h) HTD.out.2⟩)
              repeat
                first
                | (first | with_reducible refine rp0 (fun K hK => ?_) | with_reducible refine rp1 (fun K hK => ?_) | with_reducible refine rp2 (fun K hK => ?_) | with_reducible refine rp3 (fun K hK => ?_) | with_reducible refine rp4 (fun K hK => ?_)
                   go_simp
                   first
                   | (with_reducible refine hK _ _ ?_; clear hK K)
                   | (with_reducible apply Exists.intro
                      refine ⟨fun x hx => ?_, hK _ _ ?_⟩
                      first
                        | (with_reducible exact rfl)
                        | (have y0 := (cell_box (i := 0) HBX3.out hx.blk rfl); have y1 := (cell_box (i := 1) HBX3.out hx.blk rfl); have y2 := (cell_box (i := 2) HBX3.out hx.blk rfl); have y3 := (cell_box (i := 3) HBX3.out hx.blk rfl); have y4 := (cell_box (i := 4) HBX3.out hx.blk rfl); have y5 := (cell_box (i := 5) HBX3.out hx.blk rfl); go_simp; done)
                        | (have y0 := (cell_box (i := 0) HBX3.out hx.blk rfl); have y1 := (cell_box (i := 1) HBX3.out hx.blk rfl); have y2 := (cell_box (i := 2) HBX3.out hx.blk rfl); have y3 := (cell_box (i := 3) HBX3.out hx.blk rfl); have y4 := (cell_box (i := 4) HBX3.out hx.blk rfl); have y5 := (cell_box (i := 5) HBX3.out hx.blk rfl); go_simp; with_reducible exact rfl)
                      clear hK K))
                | (first | with_reducible refine rk0 ?_ (fun K hK => ?_) | with_reducible refine rk1 ?_ (fun K hK => ?_) | with_reducible refine rk2 ?_ (fun K hK => ?_) | with_reducible refine rk3 ?_ (fun K hK => ?_) | with_reducible refine rk4 ?_ (fun K hK => ?_)
                   rfl
                   go_simp
                   with_reducible refine hK _ _ ?_
                   clear hK K)
              first | with_reducible refine rc0 (fun K hK => ?_) | with_reducible refine rc1 (fun K hK => ?_) | with_reducible refine rc2 (fun K hK => ?_) | with_reducible refine rc3 (fun K hK => ?_) | with_reducible refine rc4 (fun K hK => ?_)
              go_simp
              have hadd1 := add_any B gb mb n v H F 0 x xa xcap w3 HS3.out.gv HS3.out.vat HMB.out HS3.out.nl HCMP.out.wf HCMP.out.cong HCMP.out.fv HRX.out HT3.out.1 (by have := HSX.out.2; omega) (.inl rfl)
              rw [tv_of HVX.out] at hadd1
              refine hadd1.mono ?_
              rintro e w4 ⟨rfl, v1, H1, F1, l1, n1, had1, hgv1, hvat1, hn1, hkp1, hvo1⟩
              have hcb1 := cb_keep HS3.out.gv HS3.out.vat HBX3.out hkp1
              refine ⟨⟨hkp1.size, hcb1⟩, hK _ _ ?_⟩
              clear hK K
              have HBX4 := Lib.hid (hcb1.trans HBX3.out)
              have HAD1 := Lib.hid had1; have HGV1 := Lib.hid hgv1; have HVAT1 := Lib.hid hvat1; have HN1 := Lib.hid hn1; have HKP1 := Lib.hid hkp1; have HVO1 := Lib.hid hvo1
              have HR4 := Lib.hid (HR3.out.graph HNB.out HMB.out HS3.out.gv HS3.out.vat hkp1)
              have hty4 : TyAt (LT B) w4 y ya ycap := ty_same (fun z hz => hkp1.block z (Nat.lt_of_lt_of_le hz (Nat.le_trans HNB.out (Nat.le_trans HBW.out HS3.out.keep.size))) (fun hM => adm_low HS3.out.gv HMB.out hM (Nat.lt_of_lt_of_le hz HNB.out))) (fun _ h => Nat.lt_of_lt_of_le h HNB.out) HT3.out.2
              have HTY4 := Lib.hid hty4
              clear had1 hgv1 hvat1 hn1 hkp1 hvo1 hcb1 hadd1 hty4
              repeat
                first
                | (first | with_reducible refine rp0 (fun K hK => ?_) | with_reducible refine rp1 (fun K hK => ?_) | with_reducible refine rp2 (fun K hK => ?_) | with_reducible refine rp3 (fun K hK => ?_) | with_reducible refine rp4 (fun K hK => ?_)
                   go_simp
                   first
                   | (with_reducible refine hK _ _ ?_; clear hK K)
                   | (with_reducible apply Exists.intro
                      refine ⟨fun x hx => ?_, hK _ _ ?_⟩
                      first
                        | (with_reducible exact rfl)
                        | (have y0 := (cell_box (i := 0) HBX4.out hx.blk rfl); have y1 := (cell_box (i := 1) HBX4.out hx.blk rfl); have y2 := (cell_box (i := 2) HBX4.out hx.blk rfl); have y3 := (cell_box (i := 3) HBX4.out hx.blk rfl); have y4 := (cell_box (i := 4) HBX4.out hx.blk rfl); have y5 := (cell_box (i := 5) HBX4.out hx.blk rfl); go_simp; done)
                        | (have y0 := (cell_box (i := 0) HBX4.out hx.blk rfl); have y1 := (cell_box (i := 1) HBX4.out hx.blk rfl); have y2 := (cell_box (i := 2) HBX4.out hx.blk rfl); have y3 := (cell_box (i := 3) HBX4.out hx.blk rfl); have y4 := (cell_box (i := 4) HBX4.out hx.blk rfl); have y5 := (cell_box (i := 5) HBX4.out hx.blk rfl); go_simp; with_reducible exact rfl)
                      clear hK K))
                | (first | with_reducible refine rk0 ?_ (fun K hK => ?_) | with_reducible refine rk1 ?_ (fun K hK => ?_) | with_reducible refine rk2 ?_ (fun K hK => ?_) | with_reducible refine rk3 ?_ (fun K hK => ?_) | with_reducible refine rk4 ?_ (fun K hK => ?_)
                   rfl
                   go_simp
                   with_reducible refine hK _ _ ?_
                   clear hK K)
              first | with_reducible refine rc0 (fun K hK => ?_) | with_reducible refine rc1 (fun K hK => ?_) | with_reducible refine rc2 (fun K hK => ?_) | with_reducible refine rc3 (fun K hK => ?_) | with_reducible refine rc4 (fun K hK => ?_)
              go_simp
              obtain ⟨hl1, hwf1⟩ := add_full HAD1.out
              have hadd2 := add_any B gb mb n1 v1 H1 F1 1 y ya ycap w4 HGV1.out HVAT1.out HMB.out HN1.out hwf1 HAD1.out.cong HAD1.out.fv HRY.out HTY4.out (by rw [hl1]; exact HSX.out.2) (.inr rfl)
              rw [tv_of HVY.out] at hadd2
              refine hadd2.mono ?_
              rintro e w5 ⟨rfl, v2, H2, F2, l2, n2, had2, hgv2, hvat2, hn2, hkp2, hvo2⟩
              have hcb2 := cb_keep HGV1.out HVAT1.out HBX4.out hkp2
              refine ⟨⟨hkp2.size, hcb2⟩, hK _ _ ?_⟩
              clear hK K
              have HBX5 := Lib.hid (hcb2.trans HBX4.out)
              have HAD2 := Lib.hid had2; have HGV2 := Lib.hid hgv2; have HVAT2 := Lib.hid hvat2; have HN2 := Lib.hid hn2; have HKP2 := Lib.hid hkp2; have HVO2 := Lib.hid hvo2; have HL1 := Lib.hid hl1
              have HR5 := Lib.hid (HR4.out.graph HNB.out HMB.out HGV1.out HVAT1.out hkp2)
              clear had2 hgv2 hvat2 hn2 hkp2 hvo2 hcb2 hadd2 hl1 hwf1
              first | with_reducible refine rc0 (fun K hK => ?_) | with_reducible refine rc1 (fun K hK => ?_) | with_reducible refine rc2 (fun K hK => ?_) | with_reducible refine rc3 (fun K hK => ?_) | with_reducible refine rc4 (fun K hK => ?_)
              go_simp
              obtain ⟨hl2, hwf2⟩ := add_full HAD2.out
              have hsy := Tp.size_pos y
              have hsx := Tp.size_pos x
              have hl1 := HL1.out
              obtain ⟨G2, rb, cap2, rfl, _, _, hrb1, hrb2, hgrb⟩ := gv_open HGV2.out (by omega)
              have hun := unite_any B gb rb cap2 (.map (some mb)) H2 H.length H1.length w5 HGV2.out hwf2 HAD2.out.cong (by omega) (by omega) (by have := HSX.out.2; omega)
              refine hun.mono ?_
              rintro e w6 ⟨hkp3, ok, rfl, hyes, hno⟩
              have hkp3' : Kp w5.heap.size (AdM gb mb (.slice (some ⟨rb, 0, none⟩) H2.length cap2)) w5 w6 := hkp3.mono (Nat.le_refl _) (fun z _ hz => .inr (.inr (by rw [hz]; rfl)))
              have hcb3 := cb_keep HGV2.out HVAT2.out HBX5.out hkp3'
              refine ⟨⟨hkp3.size, hcb3⟩, hK _ _ ?_⟩
              clear hK K
              have HR6 := Lib.hid (HR5.out.graph HNB.out HMB.out HGV2.out HVAT2.out hkp3')
              have hmr : mb ≠ rb := fun h => by
                obtain ⟨om, ho, hn⟩ := vat_block HVAT2.out
                obtain ⟨_, A, hA⟩ := own_block HGV2.out.row.choose_spec.2 (z := rb) rfl
                rw [h, hA] at ho; injection ho with ho; exact hn _ _ ho.symm
              have HVAT3 := Lib.hid (HVAT2.out.same (hkp3.block mb HVAT2.out.lt hmr))
              have hkp6 : Kp w.heap.size (fun z => z = gb ∨ z = mb) w w6 := ((HS3.out.keep.trans (adm_keep HKP1.out HS3.out.keep.size HS3.out.vown)).trans (adm_keep HKP2.out (Nat.le_trans HS3.out.keep.size HKP1.out.size) (vown_two HVO1.out HS3.out.keep.size HS3.out.vown))).trans (adm_keep hkp3' (Nat.le_trans (Nat.le_trans HS3.out.keep.size HKP1.out.size) HKP2.out.size) (vown_two HVO2.out (Nat.le_trans HS3.out.keep.size HKP1.out.size) (vown_two HVO1.out HS3.out.keep.size HS3.out.vown)))
              have HVOF := Lib.hid (vown_two HVO2.out (Nat.le_trans HS3.out.keep.size HKP1.out.size) (vown_two HVO1.out HS3.out.keep.size HS3.out.vown))
              have HKP6 := Lib.hid hkp6; have HYES := Lib.hid hyes; have HNOT := Lib.hid hno
              clear hkp3 hkp3' hkp6 hyes hno hcb3 hun hmr hrb1 hrb2 hgrb hl1 hl2 hsx hsy hwf2
              repeat
                first
                | (first | with_reducible refine rp0 (fun K hK => ?_) | with_reducible refine rp1 (fun K hK => ?_) | with_reducible refine rp2 (fun K hK => ?_) | with_reducible refine rp3 (fun K hK => ?_) | with_reducible refine rp4 (fun K hK => ?_)
                   go_simp
                   first
                   | (with_reducible refine hK _ _ ?_; clear hK K)
                   | (with_reducible apply Exists.intro
                      refine ⟨fun x hx => ?_, hK _ _ ?_⟩
                      first
                        | (with_reducible exact rfl)
                      clear hK K))
                | (first | with_reducible refine rk0 ?_ (fun K hK => ?_) | with_reducible refine rk1 ?_ (fun K hK => ?_) | with_reducible refine rk2 ?_ (fun K hK => ?_) | with_reducible refine rk3 ?_ (fun K hK => ?_) | with_reducible refine rk4 ?_ (fun K hK => ?_)
                   rfl
                   go_simp
                   with_reducible refine hK _ _ ?_
                   clear hK K)
              with_reducible refine rel_nil ?_
              cases ok with
              | false =>
                have HNO := Lib.hid (HCMP.out.no HSTAT.out HAD1.out HAD2.out (HNOT.out rfl))
                go_wp2_with fail
                go_ret
                exact ⟨HKP6.out, false, rfl, (fun h => by cases h), fun _ => HNO.out⟩
              | true =>
                obtain ⟨H3, hu3, hg3⟩ := HYES.out rfl
                have hcm3 := HCMP.out.yes HSTAT.out HAD1.out HAD2.out hu3
                have HCM3 := Lib.hid hcm3; have HG3 := Lib.hid hg3; have HL3 := Lib.hid hu3.len
                clear hu3 hg3 hcm3
                go_wp2_with fail
                go_roundg (Ug.csz (R.map En3.key))
                case measure => exact csz_less
                case rel => exact ⟨R, H3, F2, _, n2, ⟨HCM3.out, HG3.out, HVAT3.out, by rw [HL3.out]; exact HN2.out, HKP6.out, HVOF.out⟩, by rw [← HR.out] at HR6 ⊢; exact HR6.out, rfl⟩
        · have g6 : (xk == 6) = false := by simp; exact fun h => hv6 (.inl h)
          have g6' : (yk == 6) = false := by simp; exact fun h => hv6 (.inr h)
          by_cases hk : xk = yk
          · have gk : (xk != yk) = false := by simp [hk]
            have gk' : (xk == yk) = true := by simp [hk]
            obtain ⟨hlk, hnx⟩ := HCMP.out.kids (by rw [HVY.out.1]; exact hd) (by rw [HVX.out.1]; exact fun h => hv6 (.inl h)) (by rw [HVY.out.1]; exact fun h => hv6 (.inr h)) (by rw [HVX.out.1, HVY.out.1]; exact hk)
            have hlm : xm = ym := by rw [← HVX.out.2.2, ← HVY.out.2.2]; exact hlk
            have HNX := Lib.hid hnx; have HLK := Lib.hid hlk
            have hxm2 : xm ≤ 2 := by
              have h1 := (HCMP.out.rt (x, y) (by simp)).1
              have h2 : Tp.arity x.kind = x.kids.length := by dsimp only at h1; cases x; exact (Tp.right_node h1).1
              have h3 := arity_le x.kind
              rw [HVX.out.2.2] at h2
              omega
            have hrl : r + xm ≤ 4 * 1000000 := by
              have h1 := HCMP.out.sz
              have h2 := csz_len R
              rw [HR.out] at h2
              rw [Ug.csz_cons] at h1
              have h3 := HSZ.out
              omega
            subst hlm
            have hcall := addKids_any w.heap.size n0 x y xa xcap ya ycap xk xn yk yn xm R (some ⟨g, 0, none⟩) cap3 W2 HVX.out HVY.out (by have h := HR2.out.row; rw [← HR.out] at h; exact h) HTY.out.1 HTY.out.2 (Nat.le_trans HNB.out HBW.out) HS2.out.keep.size (by rw [HR.out]; exact hrl)
            rw [HR.out] at hcall
            have HCALL := Lib.hid hcall
            have hcA := own_block HR2.out.row rfl
            have HCA := Lib.hid hcA
            have HG1 := Lib.hid (HR2.out.row.lt g rfl).1
            have c1 := cell_box (i := 1) HX2.out rfl rfl
            have c2 := cell_box (i := 2) HX2.out rfl rfl
            have c4 := cell_box (i := 4) HX2.out rfl rfl
            have c5 := cell_box (i := 5) HX2.out rfl rfl
            clear hcall hcA hrl hxm2 hnx hlk hd hv6 hk
            go_wp2_with (go_at_call 58; refine HCALL.out.mono ?_; clear c0 c1 c2 c3 c4 c5; rintro e9 w9 ⟨v9, E, rfl, hak⟩; have HAK := Lib.hid hak; clear hak)
            have hEl : E.map En3.key = Ug.kq x y := by
              have := HAK.out.laid
              unfold Laid at this
              rw [this, List.take_of_length_le (by rw [List.length_zip, HVX.out.2.2, HVY.out.2.2]; omega)]; rfl
            have hmap : (E ++ R).map En3.key = Ug.kq x y ++ R.map En3.key := by rw [List.map_append, hEl]
            obtain ⟨A9, hA9⟩ := HCA.out.2
            have hs9 := (HS2.out.stack hA9 HG1.out HAK.out.keep).next HNX.out
            go_roundg (Ug.csz ((E ++ R).map En3.key))
            case measure => rw [hmap]; exact csz_kids HLK.out
            case rel =>
              refine ⟨E ++ R, H, F, v, n, by rw [hmap]; exact hs9, ⟨fun e he => ?_, by rw [List.length_append]; exact HAK.out.own⟩, rfl⟩
              rcases List.mem_append.1 he with he | he
              · exact HAK.out.each e he
              · exact (HR2.out.each e he).same (fun z hz => HAK.out.keep.block z (by have := HNB.out; have := HBW.out; have := HS2.out.keep.size; omega) (fun e => by injection e with e; dsimp only at e; have := HG1.out; have := HNB.out; have := HBW.out; omega))
          · have gk : (xk != yk) = true := by simp [hk]
            have gk' : (xk == yk) = false := by simp [hk]
            have HNO := Lib.hid (HCMP.out.kinds (by rw [HVY.out.1]; exact hd) (by rw [HVX.out.1]; exact fun h => hv6 (.inl h)) (by rw [HVY.out.1]; exact fun h => hv6 (.inr h)) (by rw [HVX.out.1, HVY.out.1]; exact hk))
            clear hd hv6 hk
            go_wp2_with fail
            go_ret
            exact ⟨HS2.out.keep, false, rfl, (fun h => by cases h), fun _ => HNO.out⟩
end Go.Proofs.Ytncdbbjkafgphaa
namespace Go.Proofs.Ytncdbbjkafgphaa
open Go Go.RowKit
open Tp (T)
open Ug (Of Rt)
set_option maxRecDepth 100000 in
theorem sright_any {t : T} {k n : Int} {m : Nat} {a : Option Addr} {c : Nat} {w : World} (hv : TV t k n m) (ht : TyAt (LT w.heap.size) w t a c) (hs : Tp.size t ≤ 1000000) :
    Calls Try.prog 37 #[.agg #[.int .i64 k, .int .i64 n, .slice a m c]] w fun e w' => e = .returned (.bool (Tp.right t)) ∧ Below w.heap.size w w' := by
  obtain ⟨W1, hW1⟩ : ∃ W, w.alloc (.cells #[.int .i64 k, .int .i64 n, .slice a m c] 24) = W := ⟨_, rfl⟩
  have hb1 : Below w.heap.size w W1 := by rw [← hW1]; exact (Below.refl _ _).alloc (Nat.le_refl _) _
  have hbx : BoxT W1 w.heap.size t k n m a c := ⟨hv, by rw [← hW1]; exact World.alloc_heap_new w _, ty_later ht hb1⟩
  have hc := ck_any hbx.says hbx.ty hs
  obtain ⟨c0, c1, c2⟩ := hbx.cells
  obtain ⟨r, hr⟩ : ∃ r, Tp.right t = r := ⟨_, rfl⟩
  rw [hr] at hc ⊢
  have HC := Lib.hid hc; have HW1 := Lib.hid hW1; have HB1 := Lib.hid hb1
  clear hc hW1 hb1 hbx hv ht hs hr
  go_enter Try.func37, Try.ntmps37
  go_upto_region 1 with fail
  rw [HW1.out]
  go_wp2_with fail
  refine HC.out.mono ?_
  clear c0 c1 c2
  rintro e w2 ⟨rfl, hb⟩
  have HB2 := Lib.hid (HB1.out.tr hb (Nat.le_refl _)); clear hb
  cases r with
  | true =>
    have h0 : errOf true = 0 := rfl
    rw [h0]
    go_wp2_with fail
    go_ret
    exact ⟨rfl, HB2.out⟩
  | false =>
    have h0 : errOf false = 1 := rfl
    rw [h0]
    go_wp2_with fail
    go_ret
    exact ⟨rfl, HB2.out⟩
theorem fin_zero_sol : ∃ f, Ug.Good f ∧ Ug.Sol ([] : List GNd) f := ⟨fun _ => .mk 1 0 [], fun _ => Ug.ok_int, fun p d hd => by simp at hd⟩
set_option maxRecDepth 100000 in
set_option maxHeartbeats 4000000 in
theorem finite_zero (B gb : Nat) (m : Value) (va : Option Addr) (vc : Nat) (w : World) (h : GV B gb m (.slice va 0 vc) w []) :
    Calls Try.prog 42 #[.pointer (some ⟨gb, 0, none⟩)] w (FiPost (.slice va 0 vc) [] w) := by
  have hgs : gb < w.heap.size := (Array.getElem?_eq_some_iff.1 h.box).1
  obtain ⟨i0, hi, hz0, hz1, hz2⟩ := info_parts info_in1
  obtain ⟨W1, hmk, _, hg1⟩ := run_make_full (P := Try.prog) w w.heap.size 46 3 i0 (.int .i64 0) 1 Try.underlying46 hi hz0 hz1 .i64 .i64 0 (by omega) (by unfold maxLen; omega) (Nat.le_refl _)
  have hkp : Kp w.heap.size (fun z => (Value.slice va 0 vc).ownBlock = some z) w W1 := (Kp.refl _ _ _).grown hg1 (Nat.le_refl _) (fun k h => by cases h)
  have cb : w.cell? ⟨gb, 0, none⟩ = some (.slice va 0 vc) := cell_box h.box rfl rfl
  have cb1 : W1.cell? ⟨gb, 0, none⟩ = some (.slice va 0 vc) := cell_box ((hg1.block gb hgs (by simp)).trans h.box) rfl rfl
  have HKP := Lib.hid hkp
  have HC1 := Lib.hid cb1
  simp only [Int.natCast_zero] at hmk
  clear hkp hg1 hi hz0 hz1 hz2 h
  go_enter Try.func42, Try.ntmps42
  go_wp2_with fail
  clear cb hmk
  go_loopg [4, 26] 0 (fun gk v4 v26 wr => v4 = .int .i64 0 ∧ v26 = .int .i64 0 ∧ wr = W1 ∧ gk = 0)
  case atStart => exact ⟨rfl, rfl, rfl, rfl⟩
  case round =>
    obtain ⟨rfl, rfl, rfl, rfl⟩ := hrel
    go_wp2_with fail
    go_loopg [8, 59] 0 (fun gk v8 v59 wx => v8 = .slice none 0 0 ∧ v59 = .int .i64 0 ∧ wx = wr ∧ gk = 0)
    case atStart => exact ⟨rfl, rfl, rfl, rfl⟩
    case round =>
      obtain ⟨rfl, rfl, rfl, rfl⟩ := hrel
      go_wp2_with fail
      go_loopg [4, 8] 0 (fun gk v4 v8 wx => v4 = .int .i64 0 ∧ v8 = .slice none 0 0 ∧ wx = wr ∧ gk = 0)
      case atStart => exact ⟨rfl, rfl, rfl, rfl⟩
      case round =>
        obtain ⟨rfl, rfl, rfl, rfl⟩ := hrel
        go_wp2_with fail
        go_ret
        exact ⟨true, rfl, ⟨fun _ => fin_zero_sol, fun _ => rfl⟩, HKP.out⟩
end Go.Proofs.Ytncdbbjkafgphaa
namespace Go.Proofs.Ytncdbbjkafgphaa
open Go Go.RowKit
open Tp (T)
open Ug (Of Rt)
def UnB (r r' : Bool) (t u : T) (w : World) (e : Ending) (w' : World) : Prop := ∃ z, e = .returned (.bool z) ∧ (z = true ↔ r = true ∧ r' = true ∧ Tp.Und t u) ∧ Below w.heap.size w w'
def UnPost (t u : T) (w : World) : Ending → World → Prop := UnB (Tp.right t) (Tp.right u) t u w
theorem fin_after {B gb n0 : Nat} {m : Value} {t u : T} {W6 w7 : World} (hn6 : n0 ≤ W6.heap.size) (hn : n0 ≤ w7.heap.size) (hs : Tp.size t + Tp.size u ≤ 1000000) (h : ∃ H F v, Ug.Cmp t u H F [] ∧ GV B gb m v w7 H ∧ ∀ z, v.ownBlock = some z → W6.heap.size ≤ z) :
    Calls Try.prog 42 #[.pointer (some ⟨gb, 0, none⟩)] w7 fun e w' => ∃ z, e = .returned (.bool z) ∧ (z = true ↔ ∃ s, Ug.Clos s ∧ Tp.below (Tp.app (s 0) t) (Tp.app (s 1) u) = true) ∧ Below n0 w7 w' := by
  obtain ⟨H, F, v, hcm, hgv, hvo⟩ := h
  have hL : ∃ va vc, v = .slice va H.length vc := by
    obtain ⟨G, h1, h2⟩ := hgv.row
    obtain ⟨va, vc, h3⟩ := own_shapeT h2
    exact ⟨va, vc, by rw [h3, h1.len]⟩
  obtain ⟨va, vc, rfl⟩ := hL
  have hfin : Calls Try.prog 42 #[.pointer (some ⟨gb, 0, none⟩)] w7 (FiPost (.slice va H.length vc) H w7) := by
    cases H with
    | nil => exact finite_zero _ _ _ va vc w7 hgv
    | cons d H =>
      obtain ⟨_, rb, cp, hv, _⟩ := gv_open hgv (by simp)
      injection hv with hv1 _ hv3
      subst hv1 hv3
      exact finite_any _ _ rb _ _ _ w7 hgv hcm.wf hcm.cong (by have h1 := hcm.sz; rw [show Ug.csz [] = 0 from rfl] at h1; omega) (by simp)
  refine hfin.mono fun e w' hp => ?_
  obtain ⟨z, h1, h2, h3⟩ := hp
  exact ⟨z, h1, h2.trans hcm.done.symm, h3.below hn (fun z hz => Nat.le_trans hn6 (hvo z hz))⟩
set_option maxRecDepth 100000 in
set_option maxHeartbeats 4000000 in
theorem under_any {t u : T} {k n k' n' : Int} {m m' : Nat} {a a' : Option Addr} {c c' : Nat} {w : World} (hv : TV t k n m) (hv' : TV u k' n' m') (ht : TyAt (LT w.heap.size) w t a c) (hu : TyAt (LT w.heap.size) w u a' c') (hs : Tp.size t + Tp.size u ≤ 1000000) :
    Calls Try.prog 16 #[.agg #[.int .i64 k, .int .i64 n, .slice a m c], .agg #[.int .i64 k', .int .i64 n', .slice a' m' c']] w (UnPost t u w) := by
  have hmm := @run_makeMap Try.prog
  obtain ⟨W2, hW2⟩ : ∃ W2, (w.alloc (.cells #[.int .i64 k, .int .i64 n, .slice a m c] 24)).alloc (.cells #[.int .i64 k', .int .i64 n', .slice a' m' c'] 24) = W2 := ⟨_, rfl⟩
  have hb2 : Below w.heap.size w W2 := by rw [← hW2]; exact ((Below.refl _ _).alloc (Nat.le_refl _) _).alloc (by simp) _
  have bx : BoxT W2 w.heap.size t k n m a c := ⟨hv, by rw [← hW2]; exact box1 _ _ _ _ _, ty_later ht hb2⟩
  have bu : BoxT W2 (w.heap.size + 1) u k' n' m' a' c' := ⟨hv', by rw [← hW2]; exact box2 _ _ _ _ _, ty_later hu hb2⟩
  have hct := fun x (h : Below W2.heap.size W2 x) => sright_any (w := x) (bx.later h).says (bx.later h).ty (by omega)
  have hcu := fun x (h : Below W2.heap.size W2 x) => sright_any (w := x) (bu.later h).says (bu.later h).ty (by omega)
  have HCELL := Lib.hid (fun x (h : Below W2.heap.size W2 x) => (⟨(bx.later h).cells, (bu.later h).cells⟩ : _ ∧ _))
  obtain ⟨⟨c0, c1, c2⟩, ⟨d0, d1, d2⟩⟩ := HCELL.out W2 (Below.refl _ _)
  have HT := Lib.hid ht; have HU := Lib.hid hu; have HV := Lib.hid hv; have HV' := Lib.hid hv'; have HS := Lib.hid hs
  obtain ⟨r, hr⟩ : ∃ r, Tp.right t = r := ⟨_, rfl⟩
  obtain ⟨r', hr'⟩ : ∃ r, Tp.right u = r := ⟨_, rfl⟩
  unfold UnPost
  rw [hr] at hct ⊢
  rw [hr'] at hcu ⊢
  have HCT := Lib.hid hct; have HCU := Lib.hid hcu; have HW2 := Lib.hid hW2; have HB2 := Lib.hid hb2; have HR := Lib.hid hr; have HR' := Lib.hid hr'
  clear hct hcu hW2 hb2 bx bu hv hv' ht hu hs hr hr'
  go_enter Try.func16, Try.ntmps16
  go_upto_region 1 with fail
  rw [HW2.out]
  cases r with
  | false =>
    go_wp2_with (go_at_call 37; with_reducible refine (HCT.out _ (Below.refl _ _)).mono ?_; clear c0 c1 c2 d0 d1 d2; rintro e w3 ⟨rfl, hb⟩; have HB3 := Lib.hid hb; clear hb; obtain ⟨⟨c0, c1, c2⟩, ⟨d0, d1, d2⟩⟩ := HCELL.out w3 HB3.out)
    go_ret
    exact ⟨false, rfl, ⟨(fun h => by cases h), fun h => h.1⟩, HB2.out.tr HB3.out (Nat.le_refl _)⟩
  | true =>
    cases r' with
    | false =>
      go_wp2_with (first | (go_at_call 37; with_reducible refine (HCT.out _ (Below.refl _ _)).mono ?_; clear c0 c1 c2 d0 d1 d2; rintro e w3 ⟨rfl, hb⟩; have HB3 := Lib.hid hb; clear hb; obtain ⟨⟨c0, c1, c2⟩, ⟨d0, d1, d2⟩⟩ := HCELL.out w3 HB3.out) | (go_at_call 37; with_reducible refine (HCU.out _ HB3.out).mono ?_; clear c0 c1 c2 d0 d1 d2; rintro e w4 ⟨rfl, hb⟩; have HB4 := Lib.hid (HB3.out.tr hb (Nat.le_refl _)); clear hb; obtain ⟨⟨c0, c1, c2⟩, ⟨d0, d1, d2⟩⟩ := HCELL.out w4 HB4.out))
      go_ret
      exact ⟨false, rfl, ⟨(fun h => by cases h), fun h => h.2.1⟩, HB2.out.tr HB4.out (Nat.le_refl _)⟩
    | true =>
      go_upto_region 3 with (first | (go_at_call 37; with_reducible refine (HCT.out _ (Below.refl _ _)).mono ?_; clear c0 c1 c2 d0 d1 d2; rintro e w3 ⟨rfl, hb⟩; have HB3 := Lib.hid hb; clear hb; obtain ⟨⟨c0, c1, c2⟩, ⟨d0, d1, d2⟩⟩ := HCELL.out w3 HB3.out) | (go_at_call 37; with_reducible refine (HCU.out _ HB3.out).mono ?_; clear c0 c1 c2 d0 d1 d2; rintro e w4 ⟨rfl, hb⟩; have HB4 := Lib.hid (HB3.out.tr hb (Nat.le_refl _)); clear hb; obtain ⟨⟨c0, c1, c2⟩, ⟨d0, d1, d2⟩⟩ := HCELL.out w4 HB4.out))
      go_upto_region 4 with fail
      obtain ⟨W6, hW6⟩ : ∃ W, (w4.alloc (.map #[] 0)).alloc (.cells #[.slice none 0 0, .map (some w4.heap.size)] 62) = W := ⟨_, rfl⟩
      rw [hW6]
      have hb6 : Below w4.heap.size w4 W6 := by rw [← hW6]; exact ((Below.refl _ _).alloc (Nat.le_refl _) _).alloc (by simp) _
      have hw4 : w.heap.size ≤ w4.heap.size := Nat.le_trans HB2.out.size HB4.out.size
      have hg6 : GV w.heap.size (w4.heap.size + 1) (.map (some w4.heap.size)) (.slice none 0 0) W6 [] := by
        refine ⟨⟨[], ⟨rfl, fun p g h hg => by simp at hg⟩, World.ownsRow_nil _ _ _ _⟩, ?_, by omega⟩
        have := World.alloc_heap_new (w4.alloc (.map #[] 0)) (.cells #[.slice none 0 0, .map (some w4.heap.size)] 62)
        rw [World.size_alloc, hW6] at this; exact this
      have hv6 : VAt W6 w4.heap.size 0 (fun _ _ => none) := by
        have := vk_new w4
        exact this.same (by rw [← hW6]; exact Below.heap_alloc _ _ _ (by simp))
      have hwW : Below w.heap.size w W6 := (HB2.out.tr HB4.out (Nat.le_refl _)).trans (hb6.mono hw4)
      have hcmp := compare_any w.heap.size (w4.heap.size + 1) w4.heap.size w.heap.size t u a c a' c' W6 hg6 hv6 hw4 (Nat.le_refl _) HR.out HR'.out (ty_same (fun z hz => hwW.block z hz) (fun _ h => h) HT.out) (ty_same (fun z hz => hwW.block z hz) (fun _ h => h) HU.out) HS.out
      rw [tv_of HV.out, tv_of HV'.out] at hcmp
      have hund := Ug.und_two HR.out HR'.out
      obtain ⟨⟨c0, c1, c2⟩, ⟨d0, d1, d2⟩⟩ := HCELL.out W6 (HB4.out.trans (hb6.mono HB4.out.size))
      have HCMP := Lib.hid hcmp; have HUND := Lib.hid hund; have HWW := Lib.hid hwW; have HW4 := Lib.hid hw4; have HKP6 := Lib.hid (show w4.heap.size + 1 ≤ W6.heap.size by rw [← hW6]; simp)
      clear hcmp hund hwW hw4 hg6 hv6 hb6 hW6
      have HNW := Lib.hid (show w.heap.size ≤ W6.heap.size from HWW.out.size)
      go_wp2_with (first | (go_at_call 41; refine HCMP.out.mono ?_; clear c0 c1 c2 d0 d1 d2; rintro e w7 ⟨hkp, ok, rfl, hyes, hno⟩; have HKP := Lib.hid hkp; have HYES := Lib.hid hyes; have HNOT := Lib.hid hno; clear hkp hyes hno) | (go_at_call 42; refine (fin_after HNW.out (Nat.le_trans HNW.out HKP.out.size) HS.out (HYES.out (by assumption))).mono ?_; rintro e w8 ⟨z, rfl, hz, hk8⟩; have HZ := Lib.hid hz; have HK8 := Lib.hid hk8; clear hz hk8))
      all_goals
        have hbf : Below w.heap.size w w7 := HWW.out.trans (HKP.out.below HWW.out.size (fun z hz => by have := HW4.out; rcases hz with rfl | rfl <;> omega))
        have HBF := Lib.hid hbf; clear hbf
      · go_ret
        exact ⟨z, rfl, HZ.out.trans (HUND.out.symm.trans ⟨fun h => ⟨rfl, rfl, h⟩, fun h => h.2.2⟩), HBF.out.trans HK8.out⟩
      · go_ret
        exact ⟨false, rfl, ⟨(fun h => by cases h), fun h => absurd (HUND.out.1 h.2.2) (HNOT.out (by cases ok; rfl; exact absurd rfl (by assumption)))⟩, HBF.out⟩
end Go.Proofs.Ytncdbbjkafgphaa

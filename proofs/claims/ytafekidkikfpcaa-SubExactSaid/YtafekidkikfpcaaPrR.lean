/- The page's Below, Of and Ground of stage 9, walked. The page's Of and Ground of stage 9, walked. -/
import Derived.Test.YtafekidkikfpcaaPrT
namespace Go.Proofs.Ytafekidkikfpcaa
open Go Go.RowKit
open Tp (T)

theorem belows_append : ∀ (a b c d : List T), a.length = c.length → Tp.belows (a ++ b) (c ++ d) = (Tp.belows a c && Tp.belows b d)
  | [], b, [], d, _ => by simp [Tp.belows]
  | x :: r, b, y :: s, d, h => by
    simp only [List.cons_append, Tp.belows, belows_append r b s d (by simpa using h), Bool.and_assoc]
theorem belows_take (l m : List T) (k : Nat) (h : k < l.length) (h' : k < m.length) : Tp.belows (l.take (k + 1)) (m.take (k + 1)) = (Tp.belows (l.take k) (m.take k) && Tp.below l[k] m[k]) := by
  rw [List.take_succ_eq_append_getElem h, List.take_succ_eq_append_getElem h', belows_append _ _ _ _ (by simp; omega)]; simp [Tp.belows]
theorem belows_get (l m : List T) (k : Nat) (h : k < l.length) (h' : k < m.length) (hf : Tp.below l[k] m[k] = false) : Tp.belows l m = false := by
  have e := belows_append (l.take (k + 1)) (l.drop (k + 1)) (m.take (k + 1)) (m.drop (k + 1)) (by simp; omega)
  rw [List.take_append_drop, List.take_append_drop, belows_take l m k h h', hf] at e
  simpa using e
/-- What the page asks of two right types, the second no ?. -/
theorem page_below {t u : T} (ht : Tp.right t = true) (hu : Tp.right u = true) (h5' : ¬ u.kind = 5) : (leafB t u = true → Tp.below t u = true) ∧ (leafB t u = false → likeB t u = false → Tp.below t u = false) ∧ (likeB t u = true → t.kids.length = u.kids.length ∧ Tp.below t u = Tp.belows t.kids u.kids) := by
  cases t with
  | mk k n l =>
    cases u with
    | mk k' n' l' =>
      simp only [Tp.T.kind] at h5'
      have e : Tp.below (.mk k n l) (.mk k' n' l') = (decide (k = k') && decide (n = n') && Tp.belows l l') := by simp only [Tp.below]; rw [decide_eq_false h5', Bool.false_or]
      simp only [leafB, likeB, Tp.T.kids, Tp.T.kind, Tp.T.num]
      rw [e]
      refine ⟨fun h => ?_, fun h h2 => ?_, fun h => ?_⟩
      · rw [Bool.and_eq_true, Bool.and_eq_true] at h
        obtain ⟨⟨q1, q2⟩, q3⟩ := h
        have p2 := of_decide_eq_true q2
        have p3 := of_decide_eq_true q3
        have hl : l = [] := List.eq_nil_of_length_eq_zero (of_decide_eq_true q1)
        clear q1 q2 q3
        rw [hl, p2, p3]
        simp [Tp.belows]
      · by_cases hk : k = k'
        · by_cases hl : 0 < l.length
          · simp [hk, hl] at h2
          · have hl0 : l.length = 0 := by omega
            have hn : ¬ n = n' := fun hn => by simp [hl0, hk, hn] at h
            simp [hn]
        · simp [hk]
      · rw [Bool.and_eq_true] at h
        obtain ⟨q1, q2⟩ := h
        have p1 := of_decide_eq_true q1
        have p2 := of_decide_eq_true q2
        clear q1 q2
        subst p2
        obtain ⟨r1, _, _, _, r5⟩ := Tp.right_node ht
        obtain ⟨s1, _, _, _, s5⟩ := Tp.right_node hu
        have h6 : k ≠ 6 := fun h => by subst h; simp [Tp.arity] at r1; omega
        refine ⟨by omega, ?_⟩
        rw [r5 h6, s5 h6]; simp

end Go.Proofs.Ytafekidkikfpcaa
namespace Go.Proofs.Ytafekidkikfpcaa
open Go Go.RowKit
open Tp (T)

theorem dke_slAtG {w : World} {B B' k cap : Nat} {a : Option Addr} (h : w.ownsRow B 24 3 (.slice a k cap) k (rowCells (List.replicate k dke))) (hB : B' ≤ B) : SlAt (fun b => B' ≤ b ∧ b < w.heap.size) w (Tp.dyns k) a cap := by
  have h2 := row_slAt (G := fun b => B' ≤ b ∧ b < w.heap.size) (ks := List.replicate k dke) (by rw [List.length_replicate]; exact h) (fun g hg => ⟨Nat.le_trans hB (h.lt g hg).1, (h.lt g hg).2⟩) (fun e he => by rw [List.eq_of_mem_replicate he]; exact leaf_at (i64_nat (by decide) (by decide)))
  have e : (List.replicate k dke).map Ke.t = Tp.dyns k := by simp [dke, Tp.dyns]
  rwa [e] at h2
def LeafPost (wr : World) (e : Ending) (w' : World) : Prop := e = .returned (.agg #[.int .i64 5, .int .i64 0, .slice none 0 0]) ∧ Below wr.heap.size wr w'
theorem leafPost_ret {wr : World} : ∀ e w', LeafPost wr e w' → ∃ v, e = .returned v := fun _ _ ⟨h, _⟩ => ⟨_, h⟩
set_option maxRecDepth 100000 in
set_option maxHeartbeats 4000000 in
theorem rof_any (kk : Int) (m : Nat) (hm : Tp.arity kk = m) (hm2 : m ≤ 2) (hk : I64 kk) (w : World) :
    Calls Try.prog 40 #[.int .i64 kk] w fun e w' => ∃ a c, e = .returned (.agg #[.int .i64 kk, .int .i64 0, .slice a m c]) ∧ TyAt (fun b => w.heap.size ≤ b ∧ b < w'.heap.size) w' (.mk kk 0 (Tp.dyns m)) a c ∧ Below w.heap.size w w' := by
  obtain ⟨W2, hW2⟩ : ∃ W, (w.alloc (.cells #[.int .i64 0, .int .i64 0, .slice none 0 0] 24)).alloc (.cells #[.int .i64 kk, .int .i64 0, .slice none 0 0] 24) = W := ⟨_, rfl⟩
  have hb2 : Below w.heap.size w W2 := by rw [← hW2]; exact ((Below.refl _ _).alloc (Nat.le_refl _) _).alloc (by simp) _
  have hz2 : W2.heap[w.heap.size]? = some (.cells #[.int .i64 0, .int .i64 0, .slice none 0 0] 24) := by rw [← hW2]; exact box1 _ _ _ _ _
  have hg2 : W2.heap[w.heap.size + 1]? = some (.cells #[.int .i64 kk, .int .i64 0, .slice none 0 0] 24) := by rw [← hW2]; exact box2 _ _ _ _ _
  have hs2 : W2.heap.size = w.heap.size + 2 := by rw [← hW2]; simp
  have H2 := Lib.hid (And.intro hb2 (And.intro hz2 (And.intro hg2 hs2))); have HW2 := Lib.hid hW2; have HM := Lib.hid hm; have HM2 := Lib.hid hm2; have HK := Lib.hid hk
  clear hb2 hz2 hg2 hs2 hW2 hm hm2 hk
  go_enter Try.func40, Try.ntmps40
  go_upto_region 2 with fail
  rw [HW2.out]
  go_wp2_with fail
  go_loopg [4] m (fun gk i wr => ∃ (k : Nat) (v : Value), k ≤ m ∧ i = .int .i64 (k : Int) ∧ wr.heap[w.heap.size]? = some (.cells #[.int .i64 0, .int .i64 0, .slice none 0 0] 24) ∧ wr.heap[w.heap.size + 1]? = some (.cells #[.int .i64 kk, .int .i64 0, v] 24) ∧ wr.ownsRow (w.heap.size + 2) 24 3 v k (rowCells (List.replicate k dke)) ∧ Below w.heap.size w wr ∧ w.heap.size + 2 ≤ wr.heap.size ∧ gk = m - k)
  case atStart => exact ⟨0, _, Nat.zero_le _, rfl, H2.out.2.1, H2.out.2.2.1, World.ownsRow_nil _ _ _ _, H2.out.1, by have := H2.out.2.2.2; omega, rfl⟩
  case round =>
    obtain ⟨k, v, hkm, rfl, hbz, hbg, hown, hbw, hsz, rfl⟩ := hrel
    obtain ⟨av, cv, rfl⟩ := own_shapeT hown
    have g0 : wr.cell? ⟨w.heap.size + 1, 0, none⟩ = some (.int .i64 kk) := cell_box hbg rfl rfl
    have g1 : wr.cell? ⟨w.heap.size + 1, 1, none⟩ = some (.int .i64 0) := cell_box hbg rfl rfl
    have g2 : wr.cell? ⟨w.heap.size + 1, 2, none⟩ = some (.slice av k cv) := cell_box hbg rfl rfl
    have HBZ := Lib.hid hbz; have HBG := Lib.hid hbg; have HOWN := Lib.hid hown; have HBW := Lib.hid hbw; have HSZ := Lib.hid hsz
    clear hbz hbg hown hbw hsz H2
    by_cases hlt : k < m
    · have hc : Calls Try.prog 23 #[.int .i64 5] wr.drew (LeafPost wr) := (leaf_any 5 wr.drew).mono fun _ _ ⟨h1, h2⟩ => ⟨h1, ⟨h2.os, h2.tape, h2.output, h2.size, h2.block⟩⟩
      have HC := Lib.hid hc; clear hc
      obtain ⟨k40, kml⟩ := b40 (r := k) (by have := HM2.out; omega)
      have B1 := Lib.hid k40; have B2 := Lib.hid kml
      clear k40 kml
      obtain ⟨i0, hi, hz0, hz1, hz2⟩ := info_parts info_ty
      go_upto_region 5 with (go_at_call 27; refine (kids_any kk wr).mono ?_; rintro e w' ⟨rfl, rfl⟩; rw [HM.out])
      go_region_law (first
        | (refine step_call ?_ 23 #[.const (.int .i64 5)] #[3] ?_ #[.int .i64 5] ?_ ?_ HC.out leafPost_ret ?_
           (· rfl)
           (· rfl)
           (· simp [Act.eval])
           (· exact enters_of Try.func23 (by kernel_rfl) rfl)
           rintro _ w6 ⟨h1, hb6⟩
           injection h1 with h1
           subst h1
           have hz6 : wr.heap.size ≤ w6.heap.size := hb6.size
           have cu6 : w6.cell? ⟨w.heap.size + 1, 2, none⟩ = some (.slice av k cv) := cell_box HBG.out (hb6.block _ (Nat.lt_of_lt_of_le (by omega) HSZ.out)) rfl
           have lz6 : w.heap.size + 1 < w6.heap.size := cell_lt cu6
           have HB6 := Lib.hid hb6
           have HZ6 := Lib.hid hz6
           clear hb6 hz6)
        | (refine step_append_lies _ ?_ (.tmp 14) (.tmp 16) 22 ?_ (w.heap.size + 2) 24 i0 (.agg #[.int .i64 0, .int .i64 0, .slice none 0 0]) 3 40 Try.underlying22 hi hz0 hz1 hz2 ?_ ?_ (.slice av k cv) k (rowCells (List.replicate k dke)) ?_ ?_ ⟨w6.heap.size, 0, none⟩ 1 1 [.int .i64 5, .int .i64 0, .slice none 0 0] ?_ ?_ ?_ ?_ ?_ ?_ ?_ ?_ (w6.heap.size + 1) ?_ ?_
           (· rfl)
           (· rfl)
           (· rfl)
           (· decide)
           (· rfl)
           (· exact (own_same HOWN.out (fun y hy => HB6.out.block y (HOWN.out.lt y hy).2)).alloc _)
           (· rfl)
           (· rfl)
           (· exact World.news_of_block (World.alloc_heap_new w6 _))
           (· exact three_one _ _ _ _ _)
           (· decide)
           (· exact B2.out)
           (· exact B1.out)
           (· exact Nat.le_trans HSZ.out (Nat.le_trans HZ6.out (by simp)))
           (· simp)
           intro g2 cap2 w7 own7 gr7 ly7 _
           have lu7 := far_own gr7 HB6.out HBG.out HOWN.out (by omega)
           have cu7 : w7.cell? ⟨w.heap.size + 1, 2, none⟩ = some (.slice av k cv) := cell_box lu7 rfl rfl
           have fu7 : w7.frozen? ⟨w.heap.size + 1, 2, none⟩ = false := by simp [World.frozen?, lu7]
           have OW7 := Lib.hid own7
           have GR7 := Lib.hid gr7
           have LU7 := Lib.hid lu7
           clear own7 gr7 ly7 lu7))
      all_goals
        have hrow := own_same (w' := w7.setCell ⟨w.heap.size + 1, 2, none⟩ (.slice (some ⟨g2, 0, none⟩) (k + 1) cap2)) OW7.out (fun z hz => Below.heap_setCell _ _ _ _ (by have := (OW7.out.lt z hz).1; dsimp only; omega))
        rw [← dke_cells] at hrow
        have hz7 := far_own GR7.out HB6.out HBZ.out HOWN.out (by omega)
        have hb7 : Below w.heap.size w w7 := (HBW.out.trans (HB6.out.mono HBW.out.size)).trans (below_push (Below.refl _ _) GR7.out (fun z hz => by have := (HOWN.out.lt z hz).1; omega) (by have := HZ6.out; have := HBW.out.size; omega))
        have hs7 : w.heap.size + 2 ≤ w7.heap.size := by have h1 := GR7.out.size; rw [World.size_alloc] at h1; have h2 := HZ6.out; have h3 := HSZ.out; omega
        have HROW := Lib.hid hrow; have HZ7 := Lib.hid hz7; have HB7 := Lib.hid hb7; have HS7 := Lib.hid hs7
        clear hrow hz7 hb7 hs7 hi hz0 hz1 hz2
        go_wp2_with fail
        go_roundg (m - (k + 1))
        case measure => omega
        case rel =>
          refine ⟨k + 1, _, by omega, by exact wrap_k (by have := HM2.out; omega), ?_, set2 LU7.out, HROW.out, HB7.out.setCell (by dsimp only; omega) _, by rw [size_setCell]; exact HS7.out, rfl⟩
          exact (Below.heap_setCell _ _ _ _ (by dsimp only; omega)).trans HZ7.out
    · obtain rfl : k = m := by omega
      obtain ⟨z0, z1, z2, f0, f1, f2⟩ := zero_three HBZ.out
      have HF := Lib.hid (box_set3 (v0 := .int .i64 kk) (v1 := .int .i64 0) (v2 := .slice av k cv) HBZ.out)
      have HBF := Lib.hid (put3 (bb := w.heap.size) (v0 := .int .i64 kk) (v1 := .int .i64 0) (v2 := .slice av k cv) HBW.out (Nat.le_refl _))
      have HOW2 := Lib.hid (own_same (w' := ((wr.setCell ⟨w.heap.size, 0, none⟩ (.int .i64 kk)).setCell ⟨w.heap.size, 1, none⟩ (.int .i64 0)).setCell ⟨w.heap.size, 2, none⟩ (.slice av k cv)) HOWN.out (fun z hz => set3_other (by have := (HOWN.out.lt z hz).1; omega)))
      go_wp2_with (go_at_call 27; refine (kids_any kk wr).mono ?_; rintro e w' ⟨rfl, rfl⟩; rw [HM.out])
      have hF := HF.out; have hbF := HBF.out; have how := HOW2.out
      clear g0 g1 g2 z0 z1 z2 f0 f1 f2
      generalize ((wr.setCell ⟨w.heap.size, 0, none⟩ (.int .i64 kk)).setCell ⟨w.heap.size, 1, none⟩ (.int .i64 0)).setCell ⟨w.heap.size, 2, none⟩ (.slice av k cv) = F at hF hbF how ⊢
      exact bodyPost_ret_by (v := .agg #[.int .i64 kk, .int .i64 0, .slice av k cv]) (results_cell_row (p := 2) (ty := 24) (by kernel_rfl) _ _ w.heap.size 24 _ (0, 0) _ rfl hF Try.underlying24 rfl (by kernel_rfl)) rfl ⟨av, cv, rfl, ⟨HK.out, (show I64 0 from i64_nat (by decide) (by decide)), dke_slAtG how (by omega)⟩, hbF⟩
/-- What the page's Ground hands back of a right type: in new blocks. -/
def GrResN (t : T) (w : World) (e : Ending) (w' : World) : Prop := ∃ k n m a c, TV (Tp.grd t) k n m ∧ e = .returned (.tuple #[.agg #[.int .i64 k, .int .i64 n, .slice a m c], .bool (Tp.hasG t)]) ∧ TyAt (fun b => w.heap.size ≤ b ∧ b < w'.heap.size) w' (Tp.grd t) a c ∧ Below w.heap.size w w'
theorem grd_noN {t : T} {w w' : World} {e : Ending} (h : Tp.hasG t = false) (he : e = .returned (.tuple #[.agg #[.int .i64 0, .int .i64 0, .slice none 0 0], .bool false])) (hb : Below w.heap.size w w') : GrResN t w e w' := by
  have hg : Tp.grd t = .mk 0 0 [] := by unfold Tp.grd; rw [h]; rfl
  exact ⟨0, 0, 0, none, 0, by rw [hg]; exact ⟨rfl, rfl, rfl⟩, by rw [h, he], by rw [hg]; exact leaf_at (i64_nat (by decide) (by decide)), hb⟩
theorem right_arity {t : T} (h : Tp.right t = true) : Tp.arity t.kind = (t.kids.length : Int) ∧ t.kids.length ≤ 2 := by
  have h1 := Tp.right_node (k := t.kind) (n := t.num) (l := t.kids) (by cases t; exact h)
  refine ⟨h1.1, ?_⟩
  have h2 := h1.1
  unfold Tp.arity at h2
  split at h2
  · omega
  · split at h2
    · omega
    · split at h2 <;> omega
set_option maxRecDepth 100000 in
set_option maxHeartbeats 4000000 in
theorem rgrd_any {t : T} {k n : Int} {m : Nat} {a : Option Addr} {c : Nat} {w : World} (hv : TV t k n m) (hr : Tp.right t = true) (ht : TyAt (LT w.heap.size) w t a c) :
    Calls Try.prog 30 #[.agg #[.int .i64 k, .int .i64 n, .slice a m c]] w (GrResN t w) := by
  obtain ⟨W2, hW2⟩ : ∃ W2, (w.alloc (.cells #[.int .i64 k, .int .i64 n, .slice a m c] 24)).alloc (.cells #[.int .i64 0, .int .i64 0, .slice none 0 0] 24) = W2 := ⟨_, rfl⟩
  have hb2 : Below w.heap.size w W2 := by rw [← hW2]; exact ((Below.refl _ _).alloc (Nat.le_refl _) _).alloc (by simp) _
  have bx : BoxT W2 w.heap.size t k n m a c := ⟨hv, by rw [← hW2]; exact box1 _ _ _ _ _, ty_later ht hb2⟩
  have hz : W2.heap[w.heap.size + 1]? = some (.cells #[.int .i64 0, .int .i64 0, .slice none 0 0] 24) := by rw [← hW2]; exact box2 _ _ _ _ _
  have hs2 : W2.heap.size = w.heap.size + 2 := by rw [← hW2]; simp
  obtain ⟨har, hm2⟩ := right_arity hr
  rw [hv.1, hv.2.2] at har
  rw [hv.2.2] at hm2
  have hik : I64 k := by rw [← hv.1]; exact ht.1
  obtain ⟨c0, c1, c2⟩ := bx.cells
  obtain ⟨z0, z1, z2, f0, f1, f2⟩ := zero_three hz
  have hno : (k = 5 ∨ k = 6) → Tp.hasG t = false := by
    rintro (h | h) <;> unfold Tp.hasG <;> rw [hr, hv.1] <;> rw [h] <;> simp
  have hyes : ¬ k = 5 → ¬ k = 6 → Tp.hasG t = true := by intro h2 h3; unfold Tp.hasG; rw [hr, hv.1, decide_eq_false h2, decide_eq_false h3]; rfl
  have HOF := Lib.hid (fun x => rof_any k m har hm2 hik x)
  have HW2 := Lib.hid hW2; have HB2 := Lib.hid hb2; have BX := Lib.hid bx; have HZ := Lib.hid hz; have HS2 := Lib.hid hs2; have HNO := Lib.hid hno; have HYES := Lib.hid hyes; have HV := Lib.hid hv
  clear hW2 hb2 bx hz hs2 hno hyes hv ht hr har hm2 hik
  have hF := box_set3 (v0 := .int .i64 0) (v1 := .int .i64 0) (v2 := .slice none 0 0) HZ.out
  have hbF := put3 (bb := w.heap.size + 1) (v0 := .int .i64 0) (v1 := .int .i64 0) (v2 := .slice none 0 0) HB2.out (Nat.le_succ _)
  have HF := Lib.hid hF; have HBF := Lib.hid hbF
  clear hF hbF
  go_enter Try.func30, Try.ntmps30
  go_upto_region 1 with fail
  rw [HW2.out]
  by_cases h5 : k = 5
  · have g5 : (k == 5) = true := by simp [h5]
    have HH := Lib.hid h5; clear h5
    go_wp2_with fail
    have hF := HF.out; have hbF := HBF.out
    clear c0 c1 c2 z0 z1 z2 f0 f1 f2
    generalize ((W2.setCell ⟨w.heap.size + 1, 0, none⟩ (.int .i64 0)).setCell ⟨w.heap.size + 1, 1, none⟩ (.int .i64 0)).setCell ⟨w.heap.size + 1, 2, none⟩ (.slice none 0 0) = F at hF hbF ⊢
    refine bodyPost_ret_by (v := .tuple #[.agg #[.int .i64 0, .int .i64 0, .slice none 0 0], .bool false]) ?_ rfl (grd_noN (HNO.out (.inl HH.out)) rfl hbF)
    rw [results_cell_tmp (p := 2) (u := 3) (ty := 24) (by kernel_rfl)]
    simp [asAddr, Result.andThen, run_loadVar_row F _ 24 24 _ _ _ hF Try.underlying24 rfl (by kernel_rfl)]
  · have g5 : (k == 5) = false := by simp [h5]
    by_cases h6 : k = 6
    · have g6 : (k == 6) = true := by simp [h6]
      have HH := Lib.hid h6; clear h5 h6
      go_wp2_with fail
      have hF := HF.out; have hbF := HBF.out
      clear c0 c1 c2 z0 z1 z2 f0 f1 f2
      generalize ((W2.setCell ⟨w.heap.size + 1, 0, none⟩ (.int .i64 0)).setCell ⟨w.heap.size + 1, 1, none⟩ (.int .i64 0)).setCell ⟨w.heap.size + 1, 2, none⟩ (.slice none 0 0) = F at hF hbF ⊢
      refine bodyPost_ret_by (v := .tuple #[.agg #[.int .i64 0, .int .i64 0, .slice none 0 0], .bool false]) ?_ rfl (grd_noN (HNO.out (.inr HH.out)) rfl hbF)
      rw [results_cell_tmp (p := 2) (u := 3) (ty := 24) (by kernel_rfl)]
      simp [asAddr, Result.andThen, run_loadVar_row F _ 24 24 _ _ _ hF Try.underlying24 rfl (by kernel_rfl)]
    · have g6 : (k == 6) = false := by simp [h6]
      have HG := Lib.hid (HYES.out h5 h6)
      clear h5 h6 HF HBF
      go_wp2_with fail
      refine (HOF.out W2).mono ?_
      clear c0 c1 c2 z0 z1 z2 f0 f1 f2
      rintro e w3 ⟨a2, c3, rfl, hty, hb⟩
      have hz3 : w3.heap[w.heap.size + 1]? = some (.cells #[.int .i64 0, .int .i64 0, .slice none 0 0] 24) := (hb.block _ (by have := HS2.out; omega)).trans HZ.out
      obtain ⟨z0, z1, z2, f0, f1, f2⟩ := zero_three hz3
      have HF := Lib.hid (box_set3 (v0 := .int .i64 k) (v1 := .int .i64 0) (v2 := .slice a2 m c3) hz3)
      have HBF := Lib.hid (put3 (bb := w.heap.size + 1) (v0 := .int .i64 k) (v1 := .int .i64 0) (v2 := .slice a2 m c3) (HB2.out.tr hb (Nat.le_refl _)) (Nat.le_succ _))
      have hty2 : TyAt (fun b => w.heap.size ≤ b ∧ b < (((w3.setCell ⟨w.heap.size + 1, 0, none⟩ (.int .i64 k)).setCell ⟨w.heap.size + 1, 1, none⟩ (.int .i64 0)).setCell ⟨w.heap.size + 1, 2, none⟩ (.slice a2 m c3)).heap.size) (((w3.setCell ⟨w.heap.size + 1, 0, none⟩ (.int .i64 k)).setCell ⟨w.heap.size + 1, 1, none⟩ (.int .i64 0)).setCell ⟨w.heap.size + 1, 2, none⟩ (.slice a2 m c3)) (.mk k 0 (Tp.dyns m)) a2 c3 := ty_same (fun z hz => set3_other (by have := hz.1; have := HS2.out; omega)) (fun z hz => ⟨by have := hz.1; have := HS2.out; omega, by rw [size_setCell, size_setCell, size_setCell]; exact hz.2⟩) hty
      have HT2 := Lib.hid hty2
      clear hz3 hty2 hty hb
      go_wp2_with fail
      have hF := HF.out; have hbF := HBF.out; have hty := HT2.out
      clear z0 z1 z2 f0 f1 f2
      generalize ((w3.setCell ⟨w.heap.size + 1, 0, none⟩ (.int .i64 k)).setCell ⟨w.heap.size + 1, 1, none⟩ (.int .i64 0)).setCell ⟨w.heap.size + 1, 2, none⟩ (.slice a2 m c3) = F at hF hbF hty ⊢
      have hgr : Tp.grd t = .mk k 0 (Tp.dyns m) := by unfold Tp.grd; rw [if_pos HG.out]; unfold Tp.gnd; rw [HV.out.1, HV.out.2.2]
      refine bodyPost_ret_by (v := .tuple #[.agg #[.int .i64 k, .int .i64 0, .slice a2 m c3], .bool true]) ?_ rfl ⟨k, 0, m, a2, c3, by rw [hgr]; exact ⟨rfl, rfl, Tp.dyns_len m⟩, by rw [HG.out], by rw [hgr]; exact hty, hbF⟩
      rw [results_cell_tmp (p := 2) (u := 3) (ty := 24) (by kernel_rfl)]
      simp [asAddr, Result.andThen, run_loadVar_row F _ 24 24 _ _ _ hF Try.underlying24 rfl (by kernel_rfl)]
end Go.Proofs.Ytafekidkikfpcaa

/- StoreRead: the page's inner; the walk. -/
import Derived.Test.YtaaapdfdedknfaaSuJ
import Derived.Test.YtaaapdfdedknfaaSuA
import Derived.Test.YtaaapdfdedknfaaTrF
import Derived.Test.YtaaapdfdedknfaaTrA
import Derived.Test.YtaaapdfdedknfaaTqB
import Derived.Test.YtaaapdfdedknfaaSeqA
namespace Go.Proofs.Ytaaapdfdedknfaa
open Go Go.RowKit
open Tp (T)
open Sg (Of Rt Den Dens Alk Mkd trav travs rootOf kidsOf)
theorem inners_app : ∀ a b : List T, inners (a ++ b) = inners a + inners b
  | [], b => by simp [inners]
  | t :: r, b => by simp only [List.cons_append, inners, inners_app r b]; omega
theorem inners_take (l : List T) (k : Nat) (h : k < l.length) : inners (l.take (k + 1)) = inners (l.take k) + inner l[k] := by
  rw [List.take_succ_eq_append_getElem h, inners_app]; simp [inners]
theorem inner_kids (t : T) : inner t = min t.kids.length 1 + inners t.kids := by cases t; rfl
mutual
/-- A closed right type stands for itself. -/
theorem ren_id : ∀ t : T, Tp.right t = true → Tp.without 6 t = true → ren noM t = t
  | .mk k n l, hr, hw => by
    obtain ⟨_, h2, _, _, h5⟩ := Tp.right_node hr
    have hw2 : k ≠ 6 ∧ Tp.withouts 6 l = true := by simpa [Tp.without] using hw
    rw [ren, if_neg hw2.1, rens_id l h2 hw2.2, h5 hw2.1]
theorem rens_id : ∀ l : List T, Tp.rights l = true → Tp.withouts 6 l = true → rens noM l = l
  | [], _, _ => rfl
  | t :: r, hr, hw => by
    obtain ⟨r1, r2⟩ := rights_split hr
    obtain ⟨w1, w2⟩ := withouts_split hw
    rw [rens, ren_id t r1 w1, rens_id r r2 w2]
end
set_option maxRecDepth 100000 in
set_option maxHeartbeats 2000000 in
theorem inner_any : ∀ (n : Nat) (t : T) (a : Option Addr) (cap : Nat) (w : World), Tp.size t ≤ n → Tp.size t ≤ 10000 → TyAt (LT w.heap.size) w t a cap →
    Calls Try.prog 26 #[tv t a cap] w fun e w' => e = .returned (.int .i64 (inner t : Int)) ∧ Below w.heap.size w w' := by
  intro n
  induction n with
  | zero => intro t a cap w h; have := Tp.size_pos t; omega
  | succ n ih =>
    intro t a cap w hn hs hty
    have hm10 : (t.kids.length : Int) ≤ 10000 := by have := Tp.length_le_sizes t.kids; have := size_kids t; omega
    have HN := Lib.hid hn; have HS := Lib.hid hs; have HTY := Lib.hid hty; have IH := Lib.hid ih; clear hn hs hty ih
    have hlen : ∃ m, t.kids.length = m := ⟨_, rfl⟩
    obtain ⟨m, hm⟩ := hlen
    unfold tv
    rw [hm] at hm10 ⊢
    have HM := Lib.hid hm; clear hm
    go_enter Try.func26, Try.ntmps26
    go_upto_region 1 with fail
    go_cut [3] from 200 (fun v wx => v = .int .i64 ((min m 1 : Nat) : Int) ∧ wx = w.alloc (.cells #[.int .i64 t.kind, .int .i64 t.num, .slice a m cap] 26))
    case first =>
      go_wp2_with fail
      all_goals
        go_meet
        case rel => exact ⟨by congr 1; omega, rfl⟩
    case rest =>
    obtain ⟨rfl, hwc⟩ := hcut
    rw [hwc]
    clear hwc wc
    go_wp2_with fail
    go_loopg [3, 4] m (fun gk v i wr => ∃ k : Nat, k ≤ m ∧ i = .int .i64 k ∧ v = .int .i64 (((min m 1 : Nat) : Int) + (inners (t.kids.take k) : Nat)) ∧ Below (w.heap.size + 1) (w.alloc (.cells #[.int .i64 t.kind, .int .i64 t.num, .slice a m cap] 26)) wr ∧ gk = m - k)
    case atStart => exact ⟨0, Nat.zero_le _, rfl, by (simp [inners]), Below.refl _ _, rfl⟩
    case round =>
      obtain ⟨k, hk, rfl, rfl, hb, rfl⟩ := hrel
      have c2 : wr.cell? ⟨w.heap.size, 2, none⟩ = some (.slice a m cap) := cell_box (World.alloc_heap_new w _) (hb.block w.heap.size (by omega)) rfl
      have hbw : Below w.heap.size w wr := ((Below.refl _ _).alloc (Nat.le_refl _) _).trans (hb.mono (by omega))
      have HB := Lib.hid hb; have HBW := Lib.hid hbw; clear hb hbw
      by_cases hlt : k < m
      · have hkl : k < t.kids.length := by rw [HM.out]; exact hlt
        obtain ⟨b, o, xa, xcap, rfl, hbn, hx, x0, x1, x2⟩ := kid_at HTY.out HBW.out (Nat.le_refl _) hkl
        have hst := inners_take t.kids k hkl
        have hle1 := inners_le (t.kids.take k)
        have hle2 := inner_le t.kids[k]
        have hsk := size_kid t.kids k hkl
        have hsl := sizes_take_le t.kids (k + 1)
        have hss := size_kids t
        have hcall := IH.out t.kids[k] xa xcap wr (by have := HN.out; omega) (by have := HS.out; omega) hx
        unfold tv at hcall
        obtain ⟨x, hx'⟩ : ∃ x, t.kids[k] = x := ⟨_, rfl⟩
        rw [hx'] at x0 x1 x2 hcall hst hle2
        obtain ⟨s1, hs1⟩ : ∃ s1, inners (t.kids.take k) = s1 := ⟨_, rfl⟩
        obtain ⟨s2, hs2⟩ : ∃ s1, inner x = s1 := ⟨_, rfl⟩
        have hxs : Tp.size x ≤ Tp.sizes (t.kids.take (k + 1)) := by have h9 := sizes_take t.kids k hkl; rw [hx'] at h9; omega
        have hys : Tp.sizes (t.kids.take k) ≤ Tp.sizes t.kids := sizes_take_le t.kids k
        rw [hs2] at hcall hst hle2; rw [hs1] at hst hle1 ⊢
        have hbd : ((min m 1 : Nat) : Int) + (s1 : Int) + s2 ≤ 30000 := by have := HS.out; omega
        have HST := Lib.hid hst; have HC := Lib.hid hcall; have HX := Lib.hid hx'
        clear hst hcall hsk hsl hss hx hx' hs1 hs2 hle1 hle2 hxs hys
        obtain ⟨mm, hmm⟩ : ∃ q, ((min m 1 : Nat) : Int) = q := ⟨_, rfl⟩
        have hm0 : 0 ≤ mm := by rw [← hmm]; exact Int.natCast_nonneg _
        rw [hmm] at hbd ⊢
        have hp1 : (0 : Int) ≤ s1 := Int.natCast_nonneg _
        have hp2 : (0 : Int) ≤ s2 := Int.natCast_nonneg _
        go_wp2_with (go_at_call 26; refine HC.out.mono ?_; rintro e w' ⟨rfl, hb'⟩)
        go_roundg (m - (k + 1))
        case measure => omega
        case rel => exact ⟨k + 1, by omega, by go_num, by rw [HST.out]; go_num, HB.out.trans (hb'.mono (by have := HB.out.size; rw [World.size_alloc] at this; exact this)), rfl⟩
      · obtain rfl : k = m := by omega
        go_wp2_with fail
        go_ret
        exact ⟨ret_intT (by rw [List.take_of_length_le (by rw [HM.out]; exact Nat.le_refl _), inner_kids t, HM.out]; omega), HBW.out⟩

set_option maxRecDepth 100000 in
theorem intm_any (x : Int) (n : Nat) (h0 : 0 < n) (hn : n ≤ 1000000) (w : World) : ∃ k : Nat, k < n ∧ Calls Try.prog 32 #[.int .i64 x, .int .i64 (n : Int)] w fun e w' => e = .returned (.int .i64 (k : Int)) ∧ w' = w := by
  have h : 0 ≤ IntKind.u64.wrap x := by
    simp [IntKind.wrap, IntKind.bits, IntKind.signed]
    omega
  have hw : IntKind.u64.wrap (n : Int) = (n : Int) := by
    simp [IntKind.wrap, IntKind.bits, IntKind.signed]
    omega
  have h3 : 0 ≤ (IntKind.u64.wrap x).tmod (n : Int) ∧ (IntKind.u64.wrap x).tmod (n : Int) < (n : Int) := by
    rw [Int.tmod_eq_emod_of_nonneg h]
    exact ⟨Int.emod_nonneg _ (by omega), Int.emod_lt_of_pos _ (by omega)⟩
  obtain ⟨r, hr⟩ : ∃ r, (IntKind.u64.wrap x).tmod (n : Int) = r := ⟨_, rfl⟩
  rw [hr] at h3
  have h4 : wrap64 r = r := by unfold wrap64; omega
  have h7 : (r.toNat : Int) = r := by omega
  have hz : ((n : Int) == 0) = false := by simp; omega
  refine ⟨r.toNat, by omega, ?_⟩
  rw [h7]
  clear h
  go_enter Try.func32, Try.ntmps32
  go_wp2_with fail
  go_ret
  exact ⟨rfl, rfl⟩
set_option maxRecDepth 100000 in
set_option maxHeartbeats 8000000 in
theorem llread12_any (t : T) (a : Option Addr) (cap : Nat) (x : Int) (w : World) (_ : I64 x) (hty : TyAt (LT w.heap.size) w t a cap) :
    Calls Try.prog 4 #[tv t a cap, .int .i64 x] w fun e w' => e = .returned (.bool true) ∧ Below w.heap.size w w' := by
  obtain ⟨k0, n0, m0, hv⟩ := TV.mk t
  rw [tv_of hv]
  obtain ⟨W3, hW3⟩ : ∃ W2, w.alloc (.cells #[.int .i64 k0, .int .i64 n0, .slice a m0 cap] 26) = W2 := ⟨_, rfl⟩
  have hb3 : Below w.heap.size w W3 := by rw [← hW3]; exact (Below.refl _ _).alloc (Nat.le_refl _) _
  have hs3 : W3.heap.size = w.heap.size + 1 := by rw [← hW3]; simp
  have bx : BoxT W3 w.heap.size t k0 n0 m0 a cap := ⟨hv, by rw [← hW3]; exact World.alloc_heap_new _ _, ty_later hty hb3⟩
  have hhe := heavy_any [t] (some ⟨W3.heap.size, 0, none⟩) 1 _ (by simp) (row_one bx.ty hv.1 hv.2.1 hv.2.2)
  obtain ⟨hz, hhz⟩ : ∃ q, decide (600 < Tp.sizes [t]) = q := ⟨_, rfl⟩
  rw [hhz] at hhe
  have HHE := Lib.hid hhe; have HHZ := Lib.hid hhz; have HB3 := Lib.hid hb3; have HS3 := Lib.hid hs3; have HW3 := Lib.hid hW3; have BX := Lib.hid bx; have HTY := Lib.hid hty; have HV := Lib.hid hv
  clear hhe hhz hb3 hs3 hW3 hty hv
  go_enter Try.func4, Try.ntmps4
  go_upto_region 1 with fail
  rw [HW3.out]
  obtain ⟨c0, c1, c2⟩ := bx.cells
  clear bx
  cases hz with
  | true =>
    go_wp2_with (go_at_call 15; refine HHE.out.mono ?_; clear c0 c1 c2; rintro e w4 ⟨rfl, hb⟩; have HB4 := Lib.hid (Go.RowKit.Below.tr ((Below.refl W3.heap.size W3).alloc (Nat.le_refl _) _) hb (Nat.le_refl _)); clear hb)
    go_ret
    exact ⟨rfl, HB3.out.tr HB4.out (Nat.le_refl _)⟩
  | false =>
  go_wp2_with (go_at_call 15; refine HHE.out.mono ?_; clear c0 c1 c2; rintro e w4 ⟨rfl, hb⟩; have HB4 := Lib.hid (Go.RowKit.Below.tr ((Below.refl W3.heap.size W3).alloc (Nat.le_refl _) _) hb (Nat.le_refl _)); have BX4 := Lib.hid (BX.out.later HB4.out); obtain ⟨c0, c1, c2⟩ := BX4.out.cells; clear hb)
  obtain ⟨r1, hr1⟩ : ∃ q, Tp.right t = q := ⟨_, rfl⟩
  have hc1 := rright_any _ t a cap w4 (Nat.le_refl _) BX4.out.ty
  rw [tv_of HV.out, hr1] at hc1
  have HR1 := Lib.hid hr1
  clear hr1
  refine hc1.mono ?_
  clear hc1
  rintro e w5 ⟨rfl, hb⟩
  have HB45 := Lib.hid (show Below (w.heap.size + 1) W3 w5 from (HB4.out.mono (by rw [HS3.out]; exact Nat.le_refl _)).trans (hb.mono (by have := HB4.out.size; have := HS3.out; omega)))
  have HB5 := Lib.hid ((HB3.out.tr HB4.out (Nat.le_refl _)).tr hb (Nat.le_refl _)); have BX5 := Lib.hid (BX4.out.later hb); have HZ5 := Lib.hid (show w.heap.size + 1 ≤ w5.heap.size by have := HS3.out; have := HB4.out.size; have := hb.size; omega)
  clear hb c0 c1 c2
  cases r1 with
  | false =>
    go_wp2_with fail
    go_ret
    exact ⟨rfl, HB5.out⟩
  | true =>
  have hszt : Tp.size t ≤ 600 := by have h9 := of_decide_eq_false HHZ.out; rw [sizes_one] at h9; omega
  obtain ⟨sz, hsz⟩ : ∃ q, Tp.size t = q := ⟨_, rfl⟩
  obtain ⟨nn, hnn⟩ : ∃ q, inner t = q := ⟨_, rfl⟩
  have hins : nn ≤ sz := by rw [← hnn, ← hsz]; exact inner_le t
  have hs1 : 1 ≤ sz := by rw [← hsz]; exact Tp.size_pos t
  have hty5 := BX5.out.ty
  have hsc := fun W (hb : Below w5.heap.size w5.drew W) => rsize_any (Tp.size t) t a cap W (Nat.le_refl _) (by omega) (ty_later hty5 ((Below.refl w5.heap.size w5).drew.trans hb))
  have hic := fun W (hb : Below w5.heap.size w5.drew W) => inner_any (Tp.size t) t a cap W (Nat.le_refl _) (by omega) (ty_later hty5 ((Below.refl w5.heap.size w5).drew.trans hb))
  simp only [tv_of HV.out, hnn] at hsc hic
  rw [hsz] at hsc
  have hcell := fun W (hb : Below w5.heap.size w5.drew W) => (BX5.out.later ((Below.refl w5.heap.size w5).drew.trans hb)).cells
  rw [hsz] at hszt
  have HSC := Lib.hid hsc; have HIC := Lib.hid hic; have HCELL := Lib.hid hcell; have HSZT := Lib.hid hszt; have HSZ := Lib.hid hsz; have HNN := Lib.hid hnn; have HINS := Lib.hid hins; have HS1 := Lib.hid hs1
  have HBd := Lib.hid (Below.refl w5.heap.size w5.drew); have HLE := Lib.hid (fun q (h : Below w5.heap.size w5.drew q) => h.size)
  clear hszt hsz hnn hins hs1 hty5 hsc hic hcell
  go_upto_region 3 with fail
  obtain ⟨c0, c1, c2⟩ := HCELL.out _ HBd.out
  refine wp_region_seq [(0, false), (1, false), (0, true), (0, true), (0, false), (0, false)] (by kernel_rfl) (by kernel_rfl) (by kernel_rfl) (fun _ _ _ d _ h => by cases d <;> exact h) ?_
  repeat
    first
    | (first | with_reducible refine sp0 (fun K hK => ?_) | with_reducible refine sp1 (fun K hK => ?_) | with_reducible refine sp2 (fun K hK => ?_) | with_reducible refine sp3 (fun K hK => ?_) | with_reducible refine sp4 (fun K hK => ?_)
       go_simp
       first
       | (with_reducible refine hK _ _ ?_; clear hK K)
       | (with_reducible apply Exists.intro
          refine ⟨fun x hx => ?_, hK _ _ ?_⟩
          first
            | (with_reducible exact rfl)
            | (have y0 := keepc hx c0; have y1 := keepc hx c1; have y2 := keepc hx c2; go_simp; done)
            | (have y0 := keepc hx c0; have y1 := keepc hx c1; have y2 := keepc hx c2; go_simp; with_reducible exact rfl)
          clear hK K))
    | (first | with_reducible refine sk0 ?_ (fun K hK => ?_) | with_reducible refine sk1 ?_ (fun K hK => ?_) | with_reducible refine sk2 ?_ (fun K hK => ?_) | with_reducible refine sk3 ?_ (fun K hK => ?_) | with_reducible refine sk4 ?_ (fun K hK => ?_)
       rfl
       go_simp
       with_reducible refine hK _ _ ?_
       clear hK K)
  first | with_reducible refine sc0 (fun K hK => ?_) | with_reducible refine sc1 (fun K hK => ?_) | with_reducible refine sc2 (fun K hK => ?_) | with_reducible refine sc3 (fun K hK => ?_) | with_reducible refine sc4 (fun K hK => ?_)
  go_simp
  refine (HSC.out _ HBd.out).mono ?_
  clear c0 c1 c2
  rintro e v1 ⟨rfl, hb9⟩
  refine ⟨hb9, hK _ _ ?_⟩
  clear hK K
  have HC1 := Lib.hid (HBd.out.trans (hb9.mono (HLE.out _ HBd.out)))
  clear hb9
  obtain ⟨c0, c1, c2⟩ := HCELL.out v1 HC1.out
  repeat
    first
    | (first | with_reducible refine sp0 (fun K hK => ?_) | with_reducible refine sp1 (fun K hK => ?_) | with_reducible refine sp2 (fun K hK => ?_) | with_reducible refine sp3 (fun K hK => ?_) | with_reducible refine sp4 (fun K hK => ?_)
       go_simp
       first
       | (with_reducible refine hK _ _ ?_; clear hK K)
       | (with_reducible apply Exists.intro
          refine ⟨fun x hx => ?_, hK _ _ ?_⟩
          first
            | (with_reducible exact rfl)
            | (have y0 := keepc hx c0; have y1 := keepc hx c1; have y2 := keepc hx c2; go_simp; done)
            | (have y0 := keepc hx c0; have y1 := keepc hx c1; have y2 := keepc hx c2; go_simp; with_reducible exact rfl)
          clear hK K))
    | (first | with_reducible refine sk0 ?_ (fun K hK => ?_) | with_reducible refine sk1 ?_ (fun K hK => ?_) | with_reducible refine sk2 ?_ (fun K hK => ?_) | with_reducible refine sk3 ?_ (fun K hK => ?_) | with_reducible refine sk4 ?_ (fun K hK => ?_)
       rfl
       go_simp
       with_reducible refine hK _ _ ?_
       clear hK K)
  first | with_reducible refine sc0 (fun K hK => ?_) | with_reducible refine sc1 (fun K hK => ?_) | with_reducible refine sc2 (fun K hK => ?_) | with_reducible refine sc3 (fun K hK => ?_) | with_reducible refine sc4 (fun K hK => ?_)
  go_simp
  refine (HIC.out _ HC1.out).mono ?_
  clear c0 c1 c2
  rintro e v2 ⟨rfl, hb9⟩
  refine ⟨hb9, hK _ _ ?_⟩
  clear hK K
  have HC2 := Lib.hid (HC1.out.trans (hb9.mono (HLE.out _ HC1.out)))
  clear hb9
  obtain ⟨c0, c1, c2⟩ := HCELL.out v2 HC2.out
  repeat
    first
    | (first | with_reducible refine sp0 (fun K hK => ?_) | with_reducible refine sp1 (fun K hK => ?_) | with_reducible refine sp2 (fun K hK => ?_) | with_reducible refine sp3 (fun K hK => ?_) | with_reducible refine sp4 (fun K hK => ?_)
       go_simp
       first
       | (with_reducible refine hK _ _ ?_; clear hK K)
       | (with_reducible apply Exists.intro
          refine ⟨fun x hx => ?_, hK _ _ ?_⟩
          first
            | (with_reducible exact rfl)
            | (have y0 := keepc hx c0; have y1 := keepc hx c1; have y2 := keepc hx c2; go_simp; done)
            | (have y0 := keepc hx c0; have y1 := keepc hx c1; have y2 := keepc hx c2; go_simp; with_reducible exact rfl)
          clear hK K))
    | (first | with_reducible refine sk0 ?_ (fun K hK => ?_) | with_reducible refine sk1 ?_ (fun K hK => ?_) | with_reducible refine sk2 ?_ (fun K hK => ?_) | with_reducible refine sk3 ?_ (fun K hK => ?_) | with_reducible refine sk4 ?_ (fun K hK => ?_)
       rfl
       go_simp
       with_reducible refine hK _ _ ?_
       clear hK K)
  with_reducible refine seq_nil ?_
  have BX6 := Lib.hid (BX5.out.later ((Below.refl w5.heap.size w5).drew.trans HC2.out))
  have HB37 := Lib.hid (show Below (w.heap.size + 1) W3 v2 from (HB45.out.trans (((Below.refl w5.heap.size w5).drew.trans HC2.out).mono HZ5.out)))
  have HB6 := Lib.hid (HB5.out.trans (((Below.refl w5.heap.size w5).drew.trans HC2.out).mono HB5.out.size))
  have HZ6 := Lib.hid (show w.heap.size + 1 ≤ v2.heap.size from Nat.le_trans HZ5.out HC2.out.size)
  have hws : wrap64 ((sz : Int) + (nn : Int)) = (sz : Int) + (nn : Int) := by have := HSZT.out; have := HINS.out; unfold wrap64; omega
  clear c0 c1 c2 HC1 HCELL HLE HSC HIC HBd HHE
  go_wp2_with fail
  refine (new12_any ((sz : Int) + (nn : Int)) v2).mono ?_
  rintro e w7 ⟨g1, cap1, rfl, hsv, hb⟩
  rw [show min (max ((sz : Int) + (nn : Int)) 0) 65536 = (sz : Int) + (nn : Int) from by have := HSZT.out; have := HINS.out; omega] at hsv
  have hty7 : TyAt (LT w.heap.size) w7 t a cap := ty_same (fun k hk => (HB6.out.trans (hb.mono (by have := HZ6.out; omega))).block k hk) (fun _ h => h) HTY.out
  have hput := put12_any hsv ⟨by omega, by have := HSZT.out; have := HINS.out; omega, by have := HSZT.out; have := HINS.out; omega, by simp [lvs]⟩ t a cap w.heap.size (by rw [HSZ.out]; have := HSZT.out; omega) (by have := HZ6.out; omega) hb.size hty7
  have S7 := Lib.hid hsv; have HB7 := Lib.hid hb; have HPUT := Lib.hid hput; have BX7 := Lib.hid (BX6.out.later hb)
  have HB70 := Lib.hid (HB6.out.trans (hb.mono (by have := HZ6.out; omega)))
  clear hsv hb hty7 hput
  have hb73 : Below (w.heap.size + 1) W3 w7 := by
    have h1 := HB4.out; have h2 := HZ5.out; have h3 := HS3.out; have h4 := HZ6.out
    have := HB37.out
    exact this.trans (HB7.out.mono h4)
  have hbxw := fun W (hb : Below (w.heap.size + 1) W3 W) => (⟨HV.out, (hb.block _ (by omega)).trans BX.out.box, ty_same (fun k hk => (hb.block k (by have : k < w.heap.size := hk; omega)).trans (HB3.out.block k hk)) (fun k hk => (by have : k < w.heap.size := hk; have := hb.size; have := HS3.out; show k < W.heap.size; omega)) HTY.out⟩ : BoxT W w.heap.size t k0 n0 m0 a cap)
  have HB73 := Lib.hid hb73; have HBXW := Lib.hid hbxw
  clear hb73 hbxw
  obtain ⟨wt, hwt⟩ : ∃ q, Tp.without 6 t = q := ⟨_, rfl⟩
  have hput := HPUT.out
  rw [tv_of HV.out] at hput
  have HPUT := Lib.hid hput; have HWT := Lib.hid hwt
  clear hput hwt
  obtain ⟨c0, c1, c2⟩ := BX7.out.cells
  cases wt with
  | false =>
    go_wp2_with fail
    refine HPUT.out.mono ?_
    clear c0 c1 c2
    rintro e w8 ⟨hk, h⟩
    rw [if_neg (by rintro ⟨_, h⟩; rw [HWT.out] at h; cases h)] at h
    obtain ⟨rfl, hsv⟩ := h
    have hf7 := S7.out.far
    have hb8 : Below (w.heap.size + 1) W3 w8 := HB73.out.trans (hk.below (m := w.heap.size + 1) (by have := HZ6.out; have := HB7.out.size; omega) (fun k h => by have := HZ6.out; omega))
    have HB8 := Lib.hid hb8; have S8 := Lib.hid hsv; have BX8 := Lib.hid (HBXW.out w8 hb8)
    clear hk hsv hb8 hf7
    obtain ⟨c0, c1, c2⟩ := BX8.out.cells
    have hwo := wo_any 6 HV.out BX8.out.ty
    rw [HWT.out] at hwo
    have HWO := Lib.hid hwo
    clear hwo
    go_wp2_with (go_at_call 28; refine HWO.out.mono ?_; clear c0 c1 c2; rintro e w9 ⟨rfl, hb⟩; have HB9 := Lib.hid (HB8.out.trans (hb.mono (by have := HB8.out.size; have := HS3.out; omega))); have S9 := Lib.hid (S8.out.below hb); clear hb)
    refine (count12_any S9.out).mono ?_
    rintro e wq ⟨rfl, hq⟩
    rw [hq]; clear hq wq
    go_wp2_with fail
    refine (wakes12_any w9).mono ?_
    rintro e wz ⟨rfl, hb⟩
    have HBZ := Lib.hid (HB3.out.trans ((HB9.out.trans (hb.mono (by have := HB9.out.size; have := HS3.out; omega))).mono (by omega)))
    clear hb
    go_wp2_with fail
    go_ret
    exact ⟨rfl, HBZ.out⟩
  | true =>
  go_wp2_with fail
  refine HPUT.out.mono ?_
  clear c0 c1 c2
  rintro e w8 ⟨hk, h⟩
  rw [if_pos ⟨HR1.out, HWT.out⟩, HNN.out, if_pos (by have := HS1.out; omega)] at h
  obtain ⟨g2, cap2, rfl, hsv, hg2⟩ := h
  have hf7 := S7.out.far
  have hb8 : Below (w.heap.size + 1) W3 w8 := HB73.out.trans (hk.below (m := w.heap.size + 1) (by have := HZ6.out; have := HB7.out.size; omega) (fun k h => by have := HZ6.out; omega))
  have HB8 := Lib.hid hb8; have BX8 := Lib.hid (HBXW.out w8 hb8)
  obtain ⟨hgr, him⟩ := mkP_ok t (lvs 5) HR1.out HWT.out lv_five
  have hln := mkP_len t (lvs 5)
  rw [HNN.out, show (lvs 5).length = 5 by simp [lvs]] at hln
  have hm1 : ∀ d ∈ (mkP (lvs 5) t).1, d.c.met ≤ 0 := fun d hd => by
    obtain ⟨N1, e1, q1⟩ := hgr.nodes
    rw [e1] at hd
    rcases List.mem_append.1 hd with hd | hd
    · exact (show ∀ d ∈ lvs 5, d.c.met ≤ 0 by decide) d hd
    · rw [(q1 d hd).1]; exact Int.le_refl _
  have hki : ∀ d ∈ (mkP (lvs 5) t).1, I64 d.c.kind := fun d hd => by
    obtain ⟨N1, e1, q1⟩ := hgr.nodes
    rw [e1] at hd
    rcases List.mem_append.1 hd with hd | hd
    · obtain ⟨i, hi⟩ := List.mem_iff_getElem?.1 hd
      obtain ⟨d', h1, _, h3⟩ := lv_five i (by have := (List.getElem?_eq_some_iff.1 hi).1; simpa [lvs] using this)
      rw [hi] at h1; injection h1 with h1; rw [h1, h3]; unfold I64; have := (List.getElem?_eq_some_iff.1 hi).1; have h9 : (lvs 5).length = 5 := by simp [lvs]
      omega
    · exact (q1 d hd).2
  have hden := him.den
  rw [ren_id t HR1.out HWT.out] at hden
  obtain ⟨H1, hH1⟩ : ∃ X, (mkP (lvs 5) t).1 = X := ⟨_, rfl⟩
  obtain ⟨p, hp⟩ : ∃ X, (mkP (lvs 5) t).2 = X := ⟨_, rfl⟩
  rw [hH1] at hsv hln hm1 hki hden
  rw [hp] at hden ⊢
  have hrd := fun W (hS : SV v2.heap.size v2.heap.size g2 cap2 ((sz : Int) + (nn : Int)) (0 + (nn : Int)) 0 W H1) => read12_any hS hm1 ⟨by decide, by decide⟩ ⟨by omega, by have := HINS.out; omega, by have := HSZT.out; have := HINS.out; omega, by rw [hln]; omega⟩ hden (by rw [HSZ.out]; have := HSZT.out; omega) hki
  have HRD := Lib.hid hrd; have S8 := Lib.hid hsv; have HH1 := Lib.hid hH1; have HP := Lib.hid hp; have HM1 := Lib.hid hm1; have HKI := Lib.hid hki; have HDEN := Lib.hid hden; have HLN := Lib.hid hln
  have HG2 := Lib.hid (show v2.heap.size ≤ g2 by rcases hg2 with h | h <;> omega)
  clear hrd hsv hH1 hp hm1 hki hden hln hgr him hk hg2 hb8 hf7
  obtain ⟨c0, c1, c2⟩ := BX8.out.cells
  have hwo := wo_any 6 HV.out BX8.out.ty
  rw [HWT.out] at hwo
  have HWO := Lib.hid hwo
  clear hwo
  go_wp2_with (go_at_call 28; refine HWO.out.mono ?_; clear c0 c1 c2; rintro e w9 ⟨rfl, hb⟩; have HB9 := Lib.hid (HB8.out.trans (hb.mono (by have := HB8.out.size; have := HS3.out; omega))); have S9 := Lib.hid (S8.out.below hb); clear hb)
  refine (HRD.out _ S9.out).mono ?_
  rintro e w10 ⟨hk, H2, ha2, hm2, h⟩
  rw [if_pos (by rw [HSZ.out]; omega), HSZ.out] at h
  obtain ⟨⟨a2, cc2, rfl, hty2⟩, hsv⟩ := h
  rw [tv_of HV.out]
  have hsv : SV v2.heap.size v2.heap.size g2 cap2 ((sz : Int) + (nn : Int)) ((sz : Int) + (nn : Int)) 1 w10 H2 := by rw [show (sz : Int) + (nn : Int) = 0 + (nn : Int) + (sz : Int) by omega] at hsv ⊢; exact hsv
  have hf9 := S9.out.far
  have hb10 : Below (w.heap.size + 1) W3 w10 := HB9.out.trans (hk.below (m := w.heap.size + 1) (by have := HB9.out.size; have := HS3.out; omega) (fun k h => by have := HZ6.out; have := HG2.out; omega))
  have hln2 : H2.length = 5 + nn := by rw [← ha2.len]; exact HLN.out
  have hrd := fun W (hS : SV v2.heap.size v2.heap.size g2 cap2 ((sz : Int) + (nn : Int)) ((sz : Int) + (nn : Int)) 1 W H2) => read12_any hS hm2 ⟨by decide, by decide⟩ ⟨by omega, by omega, by have := HSZT.out; have := HINS.out; omega, by rw [hln2]; have := HINS.out; omega⟩ (HDEN.out.alk ha2) (by rw [HSZ.out]; have := HSZT.out; omega) (Alk.kinds ha2 HKI.out)
  have hty10 : TyAt (LT w10.heap.size) w10 t a2 cc2 := ty_same (fun _ _ => rfl) (fun k hk => hk.2) hty2
  have HRD2 := Lib.hid hrd; have S10 := Lib.hid hsv; have HB10 := Lib.hid hb10; have HTY10 := Lib.hid hty10; have HSZ10 := Lib.hid (show w9.heap.size ≤ w10.heap.size from hk.size); have HT2 := Lib.hid hty2; have HF9 := Lib.hid hf9
  clear hrd hsv hf9 hb10 hln2 ha2 hm2 hty2 hty10 hk HRD
  go_upto_region 11 with fail
  obtain ⟨W10, hW10⟩ : ∃ W, w10.alloc (.cells #[.int .i64 k0, .int .i64 n0, .slice a2 m0 cc2] 26) = W := ⟨_, rfl⟩
  rw [hW10]
  have hb := (show Below w10.heap.size w10 W10 by rw [← hW10]; exact (Below.refl _ _).alloc (Nat.le_refl _) _)
  have hxu : W10.heap[w10.heap.size]? = some (.cells #[.int .i64 k0, .int .i64 n0, .slice a2 m0 cc2] 26) := by rw [← hW10]; exact World.alloc_heap_new _ _
  have hz10 : W10.heap.size = w10.heap.size + 1 := by rw [← hW10, World.size_alloc]
  have HXU := Lib.hid hxu; have HZ10 := Lib.hid hz10; have S10' := Lib.hid (S10.out.below hb); have HBW10 := Lib.hid (HB10.out.trans (hb.mono (by have := HB10.out.size; have := HS3.out; omega)))
  have HT10 := Lib.hid (show TyAt (fun k => w9.heap.size ≤ k ∧ k < w10.heap.size) W10 t a2 cc2 from ty_same (fun k hk => hb.block k hk.2) (fun _ h => h) HT2.out)
  have HW10 := Lib.hid hW10
  clear hb hxu hz10 hW10 HT2 HTY10
  go_wp2_with fail
  refine (HRD2.out _ S10'.out).mono ?_
  rintro e w11 ⟨hk, H3, ha3, hm3, h⟩
  rw [if_neg (by rw [HSZ.out]; have := HS1.out; omega)] at h
  obtain ⟨rfl, hsv⟩ := h
  have hsv : SV v2.heap.size v2.heap.size g2 cap2 ((sz : Int) + (nn : Int)) ((sz : Int) + (nn : Int)) 2 w11 H3 := hsv
  have hf9 := HF9.out; have hz10 := HZ10.out; have hz9 := HSZ10.out
  have hb11 : Below (w.heap.size + 1) W3 w11 := HBW10.out.trans (hk.below (m := w.heap.size + 1) (by have := HBW10.out.size; have := HS3.out; omega) (fun k h => by have := HZ6.out; have := HG2.out; omega))
  have hxu := hk.heap HXU.out (by omega) (by omega)
  have hty11 : TyAt (fun k => w9.heap.size ≤ k ∧ k < w10.heap.size) w11 t a2 cc2 := ty_same (fun k hk' => hk.block k (by have := hk'.2; omega) (by have := hk'.1; have := hk'.2; omega)) (fun _ h => h) HT10.out
  have S11 := Lib.hid hsv; have HB11 := Lib.hid hb11; have HXU11 := Lib.hid hxu; have HT11 := Lib.hid hty11; have HZ11 := Lib.hid (show W10.heap.size ≤ w11.heap.size from hk.size)
  clear hk hsv hf9 hz10 hz9 hb11 hxu hty11 ha3 hm3 HRD2 HT10 HXU
  go_upto_region 12 with fail
  obtain ⟨W11, hW11⟩ : ∃ W, w11.alloc (.cells #[.int .i64 0, .int .i64 0, .slice none 0 0] 26) = W := ⟨_, rfl⟩
  rw [hW11]
  have hb := (show Below w11.heap.size w11 W11 by rw [← hW11]; exact (Below.refl _ _).alloc (Nat.le_refl _) _)
  have hbw11 := HB11.out.trans (hb.mono (by have := HB11.out.size; have := HS3.out; omega))
  have hxu := (hb.block _ (by have := HZ11.out; have := HZ10.out; omega)).trans HXU11.out
  have hbx := HBXW.out W11 hbw11
  obtain ⟨c0, c1, c2⟩ := hbx.cells
  have d0 : W11.cell? ⟨w10.heap.size, 0, none⟩ = some (.int .i64 k0) := cell_box hxu rfl rfl
  have d1 : W11.cell? ⟨w10.heap.size, 1, none⟩ = some (.int .i64 n0) := cell_box hxu rfl rfl
  have d2 : W11.cell? ⟨w10.heap.size, 2, none⟩ = some (.slice a2 m0 cc2) := cell_box hxu rfl rfl
  have hty2 : TyAt (LT W11.heap.size) W11 t a2 cc2 := ty_same (fun k hk => hb.block k (by have := hk.2; have := HZ11.out; have := HZ10.out; omega)) (fun k hk => (by have := hk.2; have := HZ11.out; have := HZ10.out; have := hb.size; show k < W11.heap.size; omega)) HT11.out
  have hks := ks_any HV.out HV.out hty2 hbx.ty
  rw [Tp.same_refl] at hks
  have hne : (((sz : Int) + (nn : Int)) != ((sz : Int) + (nn : Int))) = false := by simp
  have HKS := Lib.hid hks; have S12 := Lib.hid (S11.out.below hb); have HBW11 := Lib.hid hbw11
  have HW11 := Lib.hid hW11
  clear hb hbw11 hxu hbx hty2 hks hW11
  go_wp2_with (go_at_call 31; refine HKS.out.mono ?_; clear c0 c1 c2 d0 d1 d2; rintro e w12 ⟨rfl, hb⟩; have HB12 := Lib.hid (HBW11.out.trans (hb.mono (by have := HBW11.out.size; have := HS3.out; omega))); have S13 := Lib.hid (S12.out.below hb); clear hb)
  refine (count12_any S13.out).mono ?_
  rintro e wq ⟨rfl, hq⟩
  rw [hq]; clear hq wq
  obtain ⟨k1, hk1, hik⟩ := intm_any x (sz + nn) (by have := HS1.out; omega) (by have := HSZT.out; have := HINS.out; omega) w12
  rw [show (((sz + nn : Nat)) : Int) = (sz : Int) + (nn : Int) by omega] at hik
  have HIK := Lib.hid hik; have HK1 := Lib.hid hk1
  have hwk : wrap64 (1 + (k1 : Int)) = 1 + (k1 : Int) := by have := HSZT.out; have := HINS.out; unfold wrap64; omega
  have hwl : wrap64 ((sz : Int) + (nn : Int) - (1 + (k1 : Int))) = (sz : Int) + (nn : Int) - (1 + (k1 : Int)) := by have := HSZT.out; have := HINS.out; unfold wrap64; omega
  clear hik hk1
  go_wp2_with fail
  refine HIK.out.mono ?_
  rintro e wq ⟨rfl, hq⟩
  rw [hq]; clear hq wq HIK
  go_wp2_with fail
  refine (new12_any ((sz : Int) + (nn : Int) - (1 + (k1 : Int))) w12).mono ?_
  rintro e w13 ⟨g3, cap3, rfl, hsv, hb⟩
  obtain ⟨L2, hL2⟩ : ∃ q : Int, (sz : Int) + (nn : Int) - (1 + (k1 : Int)) = q := ⟨_, rfl⟩
  have hL2b : 0 ≤ L2 ∧ L2 < (sz : Int) + (nn : Int) := by have := HK1.out; omega
  rw [hL2] at hsv
  have hwm : wrap64 ((sz : Int) + (nn : Int) - (1 + (k1 : Int))) = L2 := by rw [hwl, hL2]
  have hwl2 : wrap64 L2 = L2 := by have := HSZT.out; have := HINS.out; unfold wrap64; omega
  clear hwl
  rw [show min (max L2 0) 65536 = L2 from by have := HSZT.out; have := HINS.out; omega] at hsv
  have hb13 := HB12.out.trans (hb.mono (by have := HB12.out.size; have := HS3.out; omega))
  have hbx := HBXW.out w13 hb13
  have hty13 : TyAt (LT w.heap.size) w13 t a cap := ty_same (fun k hk => (hb13.block k (by have : k < w.heap.size := hk; omega)).trans (HB3.out.block k hk)) (fun _ h => h) HTY.out
  have hput := put12_any hsv ⟨by omega, by omega, by have := HSZT.out; have := HINS.out; omega, by simp [lvs]⟩ t a cap w.heap.size (by rw [HSZ.out]; have := HSZT.out; omega) (by have := HB12.out.size; have := HS3.out; omega) hb.size hty13
  rw [tv_of HV.out] at hput
  have S14 := Lib.hid hsv; have HB13 := Lib.hid hb13; have HPUT2 := Lib.hid hput; have HL2 := Lib.hid hL2; have HL2B := Lib.hid hL2b
  obtain ⟨c0, c1, c2⟩ := hbx.cells
  clear hsv hb hb13 hty13 hput hbx hL2b
  by_cases hfit : (nn : Int) ≤ L2
  · have hgd : decide (L2 < (nn : Int)) = false := by simp; omega
    have HFIT := Lib.hid hfit
    clear hfit
    go_wp2_with fail
    refine HPUT2.out.mono ?_
    clear c0 c1 c2
    rintro e w14 ⟨hk, h⟩
    rw [if_pos ⟨HR1.out, HWT.out⟩, HNN.out, if_pos (by have := HFIT.out; omega)] at h
    obtain ⟨g4, cap4, rfl, hsv, hg4⟩ := h
    rw [HH1.out] at hsv
    rw [HP.out]
    have hsv : SV w12.heap.size w12.heap.size g4 cap4 L2 (nn : Int) 0 w14 H1 := by rw [show (0 : Int) + (nn : Int) = (nn : Int) by omega] at hsv; exact hsv
    have hf := S14.out.far
    have hb14 : Below (w.heap.size + 1) W3 w14 := HB13.out.trans (hk.below (m := w.heap.size + 1) (by have := HB13.out.size; have := HS3.out; omega) (fun k h => by have := HB12.out.size; have := HS3.out; omega))
    have hrd := read12_any hsv HM1.out ⟨by decide, by decide⟩ ⟨by omega, by have := HFIT.out; omega, by have := HL2B.out; have := HSZT.out; have := HINS.out; omega, by rw [HLN.out]; omega⟩ HDEN.out (by rw [HSZ.out]; have := HSZT.out; omega) HKI.out
    have HRD := Lib.hid hrd; have S15 := Lib.hid hsv; have HB14 := Lib.hid hb14
    have HG4 := Lib.hid (show w.heap.size + 1 ≤ g4 by have := HB12.out.size; have := HS3.out; rcases hg4 with h | h <;> omega)
    clear hrd hsv hb14 hk hg4 hf
    go_wp2_with fail
    refine HRD.out.mono ?_
    rintro e w15 ⟨hk, H5, ha5, hm5, h⟩
    rw [if_neg (by rw [HSZ.out]; have := HL2.out; omega)] at h
    obtain ⟨rfl, hsv⟩ := h
    have hf := S15.out.far
    have hb15 : Below (w.heap.size + 1) W3 w15 := HB14.out.trans (hk.below (m := w.heap.size + 1) (by have := HB14.out.size; have := HS3.out; omega) (fun k h => by have := HB12.out.size; have := HS3.out; have := HG4.out; omega))
    have S16 := Lib.hid hsv; have HB15 := Lib.hid hb15
    clear hsv hk ha5 hm5 hb15 hf HRD
    go_upto_region 22 with fail
    obtain ⟨W15, hW15⟩ : ∃ W, w15.alloc (.cells #[.int .i64 0, .int .i64 0, .slice none 0 0] 26) = W := ⟨_, rfl⟩
    rw [hW15]
    have hb := (show Below w15.heap.size w15 W15 by rw [← hW15]; exact (Below.refl _ _).alloc (Nat.le_refl _) _)
    have hx : W15.heap[w15.heap.size]? = some (.cells #[.int .i64 0, .int .i64 0, .slice none 0 0] 26) := by rw [← hW15]; exact World.alloc_heap_new _ _
    have d0 : W15.cell? ⟨w15.heap.size, 0, none⟩ = some (.int .i64 0) := cell_box hx rfl rfl
    have HBW := Lib.hid (HB15.out.trans (hb.mono (by have := HB15.out.size; have := HS3.out; omega))); have S17 := Lib.hid (S16.out.below hb)
    have hnn : ((nn : Int) == (nn : Int)) = true := by simp
    have HWX := Lib.hid hW15
    clear hb hx hW15
    go_wp2_with fail
    refine (count12_any S17.out).mono ?_
    rintro e wq ⟨rfl, hq⟩
    rw [hq]; clear hq wq d0
    go_wp2_with fail
    refine (wakes12_any W15).mono ?_
    rintro e wz ⟨rfl, hb⟩
    have HBZ := Lib.hid (HB3.out.trans ((HBW.out.trans (hb.mono (by have := HBW.out.size; have := HS3.out; omega))).mono (by omega)))
    clear hb
    go_wp2_with fail
    go_ret
    exact ⟨rfl, HBZ.out⟩
  · have hgd : decide (L2 < (nn : Int)) = true := by simp; omega
    have HFIT := Lib.hid hfit
    clear hfit
    go_wp2_with fail
    refine HPUT2.out.mono ?_
    clear c0 c1 c2
    rintro e w14 ⟨hk, h⟩
    rw [if_pos ⟨HR1.out, HWT.out⟩, HNN.out, if_neg (by have := HFIT.out; omega)] at h
    obtain ⟨rfl, hsv⟩ := h
    have hb14 : Below (w.heap.size + 1) W3 w14 := HB13.out.trans (hk.below (m := w.heap.size + 1) (by have := HB13.out.size; have := HS3.out; omega) (fun k h => by have := HB12.out.size; have := HS3.out; have := S14.out.far; omega))
    have S15 := Lib.hid hsv; have HB14 := Lib.hid hb14
    clear hsv hb14 hk
    go_wp2_with fail
    refine (count12_any S15.out).mono ?_
    rintro e wq ⟨rfl, hq⟩
    rw [hq]; clear hq wq
    go_wp2_with fail
    refine (wakes12_any w14).mono ?_
    rintro e wz ⟨rfl, hb⟩
    have HBZ := Lib.hid (HB3.out.trans ((HB14.out.trans (hb.mono (by have := HB14.out.size; have := HS3.out; omega))).mono (by omega)))
    clear hb
    go_wp2_with fail
    go_ret
    exact ⟨rfl, HBZ.out⟩
end Go.Proofs.Ytaaapdfdedknfaa

/- StoreCopy: the walk. -/
import Derived.Test.YteolbbgnkbcfmaaSuQ
import Derived.Test.YteolbbgnkbcfmaaSuG
import Derived.Test.YteolbbgnkbcfmaaStY
import Derived.Test.YteolbbgnkbcfmaaTrA
import Derived.Test.YteolbbgnkbcfmaaSeqA
import Derived.Deep.CutBlock
import Derived.Deep.CutRange
namespace Go.Proofs.Yteolbbgnkbcfmaa
open Go Go.RowKit
open Tp (T)
open Sg (Of Rt Den Dens Alk Mkd trav travs rootOf kidsOf)
/-- A row of numbers that is handed in. -/
structure NumsAt (N : Nat) (w : World) (xs : List Int) (a : Option Addr) (n cap : Nat) : Prop where
  len : xs.length = n
  le : n ≤ cap
  cap : cap ≤ maxLen
  row : xs ≠ [] → ∃ b o, a = some ⟨b, o, none⟩ ∧ b < N ∧ ∀ i (h : i < xs.length), w.cell? ⟨b, o + i, none⟩ = some (.int .i64 xs[i])
  int : ∀ x ∈ xs, I64 x
theorem NumsAt.keep {N : Nat} {w w' : World} {xs : List Int} {a : Option Addr} {n cap : Nat} (h : NumsAt N w xs a n cap) (hb : Below N w w') : NumsAt N w' xs a n cap :=
  ⟨h.len, h.le, h.cap, fun hne => by
    obtain ⟨b, o, e, hlt, hc⟩ := h.row hne
    exact ⟨b, o, e, hlt, fun i hi => (World.cell?_of_block (a := ⟨b, o + i, none⟩) (hb.block b hlt)).trans (hc i hi)⟩, h.int⟩
/-- A type in a box, whose kids lie between two marks. -/
structure BoxR (w : World) (b : Nat) (t : T) (k n : Int) (m : Nat) (a : Option Addr) (c lo hi : Nat) : Prop where
  box : w.heap[b]? = some (.cells #[.int .i64 k, .int .i64 n, .slice a m c] 26)
  ty : TyAt (fun j => lo ≤ j ∧ j < hi) w t a c
theorem BoxR.kp {N : Nat} {P : Nat → Prop} {w w' : World} {b : Nat} {t : T} {k n : Int} {m : Nat} {a : Option Addr} {c lo hi : Nat} (h : BoxR w b t k n m a c lo hi) (hk : Kp N P w w') (h1 : b < N) (h2 : hi ≤ N) (h3 : ¬ P b) (h4 : ∀ j, P j → j < lo ∨ hi ≤ j) : BoxR w' b t k n m a c lo hi :=
  ⟨(hk.block b h1 h3).trans h.box, ty_same (fun j hj => hk.block j (by have := hj.2; omega) (fun hp => by have := h4 j hp; have := hj.1; have := hj.2; omega)) (fun _ h => h) h.ty⟩
theorem BoxR.below {N : Nat} {w w' : World} {b : Nat} {t : T} {k n : Int} {m : Nat} {a : Option Addr} {c lo hi : Nat} (h : BoxR w b t k n m a c lo hi) (hk : Below N w w') (h1 : b < N) (h2 : hi ≤ N) : BoxR w' b t k n m a c lo hi :=
  ⟨(hk.block b h1).trans h.box, ty_same (fun j hj => hk.block j (by have := hj.2; omega)) (fun _ h => h) h.ty⟩
theorem BoxR.cells {w : World} {b : Nat} {t : T} {k n : Int} {m : Nat} {a : Option Addr} {c lo hi : Nat} (h : BoxR w b t k n m a c lo hi) : w.cell? ⟨b, 0, none⟩ = some (.int .i64 k) ∧ w.cell? ⟨b, 1, none⟩ = some (.int .i64 n) ∧ w.cell? ⟨b, 2, none⟩ = some (.slice a m c) := ⟨cell_box h.box rfl rfl, cell_box h.box rfl rfl, cell_box h.box rfl rfl⟩
theorem BoxR.lt {w : World} {b : Nat} {t : T} {k n : Int} {m : Nat} {a : Option Addr} {c lo hi : Nat} (h : BoxR w b t k n m a c lo hi) (hh : hi ≤ w.heap.size) : TyAt (LT w.heap.size) w t a c := ty_same (fun _ _ => rfl) (fun j hj => (show j < w.heap.size by have := hj.2; omega)) h.ty
set_option maxRecDepth 100000 in
theorem intc_any (x : Int) (n : Nat) (h0 : 0 < n) (hn : n ≤ 1000000) (w : World) : ∃ k : Nat, k < n ∧ Calls Try.prog 23 #[.int .i64 x, .int .i64 (n : Int)] w fun e w' => e = .returned (.int .i64 (k : Int)) ∧ w' = w := by
  have h : 0 ≤ IntKind.u64.wrap x := by
    simp [IntKind.wrap, IntKind.bits, IntKind.signed]
    omega
  have hw : IntKind.u64.wrap (n : Int) = (n : Int) := by
    simp [IntKind.wrap, IntKind.bits, IntKind.signed]
    omega
  have h3 : 0 ≤ (IntKind.u64.wrap x).tmod (n : Int) ∧ (IntKind.u64.wrap x).tmod (n : Int) < (n : Int) := by
    rw [Int.tmod_eq_emod_of_nonneg h]
    exact ⟨Int.emod_nonneg _ (by omega), Int.emod_lt_of_pos _ (by omega)⟩
  obtain ⟨r, hr⟩ : ∃ r, (IntKind.u64.wrap x).tmod (n : Int) = r := ⟨_, rfl⟩
  rw [hr] at h3
  have h4 : wrap64 r = r := by unfold wrap64; omega
  have h7 : (r.toNat : Int) = r := by omega
  have hz : ((n : Int) == 0) = false := by simp; omega
  refine ⟨r.toNat, by omega, ?_⟩
  rw [h7]
  clear h
  go_enter Try.func23, Try.ntmps23
  go_wp2_with fail
  go_ret
  exact ⟨rfl, rfl⟩
theorem int5_any (x : Int) (w : World) : ∃ k : Nat, k < 5 ∧ Calls Try.prog 23 #[.int .i64 x, .int .i64 5] w fun e w' => e = .returned (.int .i64 (k : Int)) ∧ w' = w := intc_any x 5 (by decide) (by decide) w
theorem natRow_take {l : List Nat} {k : Nat} (h : k < l.length) : natRow (l.take (k + 1)) = natRow (l.take k) ++ [.int .i64 (l[k] : Int)] := by
  unfold natRow; rw [List.take_succ_eq_append_getElem h, List.map_append]; rfl
theorem natRow_app (l : List Nat) (x : Nat) : natRow (l ++ [x]) = natRow l ++ [.int .i64 (x : Int)] := by simp [natRow]
set_option maxRecDepth 100000 in
set_option maxHeartbeats 8000000 in
theorem lcopy12_any (t : T) (a : Option Addr) (cap : Nat) (xs : List Int) (xa : Option Addr) (xn xc : Nat) (w : World) (hty : TyAt (LT w.heap.size) w t a cap) (hxs : NumsAt w.heap.size w xs xa xn xc) :
    Calls Try.prog 4 #[tv t a cap, .slice xa xn xc] w fun e w' => e = .returned (.bool true) ∧ Below w.heap.size w w' := by
  obtain ⟨k0, n0, m0, hv⟩ := TV.mk t
  rw [tv_of hv]
  obtain ⟨W3, hW3⟩ : ∃ W2, w.alloc (.cells #[.int .i64 k0, .int .i64 n0, .slice a m0 cap] 26) = W2 := ⟨_, rfl⟩
  have hb3 : Below w.heap.size w W3 := by rw [← hW3]; exact (Below.refl _ _).alloc (Nat.le_refl _) _
  have hs3 : W3.heap.size = w.heap.size + 1 := by rw [← hW3]; simp
  have bx : BoxT W3 w.heap.size t k0 n0 m0 a cap := ⟨hv, by rw [← hW3]; exact World.alloc_heap_new _ _, ty_later hty hb3⟩
  have hhe := heavy_any [t] (some ⟨W3.heap.size, 0, none⟩) 1 _ (by simp) (row_one bx.ty hv.1 hv.2.1 hv.2.2)
  obtain ⟨hz, hhz⟩ : ∃ q, decide (600 < Tp.sizes [t]) = q := ⟨_, rfl⟩
  rw [hhz] at hhe
  have HHE := Lib.hid hhe; have HHZ := Lib.hid hhz; have HB3 := Lib.hid hb3; have HS3 := Lib.hid hs3; have HW3 := Lib.hid hW3; have BX := Lib.hid bx; have HTY := Lib.hid hty; have HV := Lib.hid hv; have HXS := Lib.hid hxs
  clear hhe hhz hb3 hs3 hW3 hty hv hxs
  go_enter Try.func4, Try.ntmps4
  go_upto_region 1 with fail
  rw [HW3.out]
  obtain ⟨c0, c1, c2⟩ := bx.cells
  clear bx
  cases hz with
  | true =>
    go_wp2_with (go_at_call 11; refine HHE.out.mono ?_; clear c0 c1 c2; rintro e w4 ⟨rfl, hb⟩; have HB4 := Lib.hid (Go.RowKit.Below.tr ((Below.refl W3.heap.size W3).alloc (Nat.le_refl _) _) hb (Nat.le_refl _)); clear hb)
    go_ret
    exact ⟨rfl, HB3.out.tr HB4.out (Nat.le_refl _)⟩
  | false =>
  go_wp2_with (go_at_call 11; refine HHE.out.mono ?_; clear c0 c1 c2; rintro e w4 ⟨rfl, hb⟩; have HB4 := Lib.hid (Go.RowKit.Below.tr ((Below.refl W3.heap.size W3).alloc (Nat.le_refl _) _) hb (Nat.le_refl _)); have BX4 := Lib.hid (BX.out.later HB4.out); obtain ⟨c0, c1, c2⟩ := BX4.out.cells; clear hb)
  obtain ⟨r1, hr1⟩ : ∃ q, Tp.right t = q := ⟨_, rfl⟩
  have hc1 := rright_any _ t a cap w4 (Nat.le_refl _) BX4.out.ty
  rw [tv_of HV.out, hr1] at hc1
  have HR1 := Lib.hid hr1
  clear hr1
  refine hc1.mono ?_
  clear hc1
  rintro e w5 ⟨rfl, hb⟩
  have HB5 := Lib.hid ((HB3.out.tr HB4.out (Nat.le_refl _)).tr hb (Nat.le_refl _)); have BX5 := Lib.hid (BX4.out.later hb); have HZ5 := Lib.hid (show w.heap.size + 1 ≤ w5.heap.size by have := HS3.out; have := HB4.out.size; have := hb.size; omega)
  clear hb c0 c1 c2
  cases r1 with
  | false =>
    go_wp2_with fail
    go_ret
    exact ⟨rfl, HB5.out⟩
  | true =>
  by_cases h10 : (10 : Int) < (xn : Int)
  · have hg10 : decide ((10 : Int) < (xn : Int)) = true := by simpa using h10
    go_wp2_with fail
    go_ret
    exact ⟨rfl, HB5.out⟩
  have hg10 : decide ((10 : Int) < (xn : Int)) = false := by simpa using h10
  have hx10 : xn ≤ 10 := by omega
  have HX10 := Lib.hid hx10
  clear h10 hx10
  go_wp2_with fail
  refine (new12_any 65536 w5).mono ?_
  rintro e w7 ⟨g1, cap1, rfl, hsv, hb⟩
  rw [show min (max (65536 : Int) 0) 65536 = 65536 from by decide] at hsv
  have hmm := @run_makeMap Try.prog
  have S7 := Lib.hid hsv; have HB7 := Lib.hid hb
  clear hsv hb hg10
  go_upto_region 7 with fail
  obtain ⟨W8, hW8⟩ : ∃ W, w7.alloc (.map #[] 0) = W := ⟨_, rfl⟩
  rw [hW8]
  have hb8 : Below w7.heap.size w7 W8 := by rw [← hW8]; exact (Below.refl _ _).alloc (Nat.le_refl _) _
  have hs8 : W8.heap.size = w7.heap.size + 1 := by rw [← hW8]; simp
  have hi1 : IMAt W8 w7.heap.size 0 (fun _ => none) := by rw [← hW8]; exact im_new w7
  have h57 : w5.heap.size < w7.heap.size := S7.out.far.2.2.1
  have hg1 := S7.out.far
  have hz5 := HZ5.out
  have hb58 : Below w5.heap.size w5 W8 := HB7.out.tr hb8 (Nat.le_refl _)
  have hbx8 := (hb58.block w.heap.size (by omega)).trans BX5.out.box
  have hb08 : Below w.heap.size w W8 := HB5.out.tr hb58 (Nat.le_refl _)
  have hty8 : TyAt (LT w.heap.size) W8 t a cap := ty_same (fun k hk => hb08.block k hk) (fun _ h => h) HTY.out
  have hsz : Tp.size t ≤ 600 := by have h9 := of_decide_eq_false HHZ.out; rw [sizes_one] at h9; omega
  have hmade := made12_any w.heap.size w5.heap.size w5.heap.size w7.heap.size 65536 0 1 (by omega) (by omega) (by omega) (by omega) (Tp.size t) t g1 cap1 0 0 (lvs 5) (fun _ => none) a cap W8 (Nat.le_refl _) HR1.out (S7.out.below hb8) ⟨by decide, by decide, by decide, by decide⟩ (by omega) hi1 (by omega) (fun k p h => by cases h) lv_five hty8 (by omega)
  rw [tv_of HV.out] at hmade
  have c0 : W8.cell? ⟨w.heap.size, 0, none⟩ = some (.int .i64 k0) := cell_box hbx8 rfl rfl
  have c1 : W8.cell? ⟨w.heap.size, 1, none⟩ = some (.int .i64 n0) := cell_box hbx8 rfl rfl
  have c2 : W8.cell? ⟨w.heap.size, 2, none⟩ = some (.slice a m0 cap) := cell_box hbx8 rfl rfl
  have HM1 := Lib.hid hmade; have HS8 := Lib.hid hs8; have H57 := Lib.hid h57; have HG1 := Lib.hid hg1; have HSZ := Lib.hid hsz; have HB08 := Lib.hid hb08
  have BR8 := Lib.hid (show BoxR W8 w.heap.size t k0 n0 m0 a cap 0 w.heap.size from ⟨hbx8, ty_same (fun _ _ => rfl) (fun j hj => ⟨Nat.zero_le _, hj⟩) hty8⟩)
  clear hmade hW8 hb8 hs8 hi1 h57 hg1 hz5 hb58 hbx8 hb08 hty8 hsz hmm
  go_wp2_with fail
  refine HM1.out.mono ?_
  clear HM1 c0 c1 c2
  rintro e w9 ⟨g2, cap2, p, nm1, C1, H1, M1, rfl, hsv, hC, hbd, hmp, hnm, hgr, him, hk, hg, hct, hoc⟩
  have h57 := H57.out; have hg1 := HG1.out; have hz5 := HZ5.out; have hs8 := HS8.out; have hsz := HSZ.out
  have hg2 : g2 < w7.heap.size ∨ w7.heap.size + 1 ≤ g2 := by rcases hg with h | h <;> omega
  have hok1 : MapOk H1 M1 := hgr.ok (fun k p h => by cases h)
  have hoc1 : ∀ k q, M1 k = some q → occ t k := fun k q h => (hoc k q h).elim (fun h => by cases h) id
  have hm1 : ∀ d ∈ H1, d.c.met ≤ 0 := fun d hd => by
    obtain ⟨N1, e1, q1⟩ := hgr.nodes
    rw [e1] at hd
    rcases List.mem_append.1 hd with hd | hd
    · exact (show ∀ d ∈ lvs 5, d.c.met ≤ 0 by decide) d hd
    · rw [(q1 d hd).1]; exact Int.le_refl _
  have hki1 : ∀ d ∈ H1, I64 d.c.kind := fun d hd => by
    obtain ⟨N1, e1, q1⟩ := hgr.nodes
    rw [e1] at hd
    rcases List.mem_append.1 hd with hd | hd
    · obtain ⟨i, hi⟩ := List.mem_iff_getElem?.1 hd
      obtain ⟨d', h1, _, h3⟩ := lv_five i (by have := (List.getElem?_eq_some_iff.1 hi).1; simpa [lvs] using this)
      rw [hi] at h1; injection h1 with h1; rw [h1, h3]; unfold I64; have := (List.getElem?_eq_some_iff.1 hi).1; have h9 : (lvs 5).length = 5 := by simp [lvs]
      omega
    · exact (q1 d hd).2
  have hva := vars12_any hsv hm1 ⟨by decide, by decide⟩ him.den (by rw [ren_size]; omega)
  have hin : ∀ i, i ∈ varsOf H1 (trav H1 (ren M1 t) p []) ↔ ∃ k, M1 k = some i := vars_of_im him hok1 hoc1
  have hvn : (varsOf H1 (trav H1 (ren M1 t) p [])).Nodup := (trav_nodup him List.nodup_nil).filter _
  obtain ⟨V1, hV1⟩ : ∃ x, varsOf H1 (trav H1 (ren M1 t) p []) = x := ⟨_, rfl⟩
  rw [hV1] at hva hin hvn
  obtain ⟨N, hN⟩ : ∃ N, V1.length = N := ⟨_, rfl⟩
  have hbr9 := BR8.out.kp hk (by omega) (by omega) (by omega) (fun j hj => by omega)
  have HB9 := Lib.hid (HB08.out.trans (hk.below (m := w.heap.size) (by omega) (fun k h => by omega)))
  have HVA := Lib.hid hva; have HIN := Lib.hid hin; have HVN := Lib.hid hvn; have HN := Lib.hid hN; have HBR9 := Lib.hid hbr9; have HKI1 := Lib.hid hki1; have HIM1 := Lib.hid him; have HOK1 := Lib.hid hok1; have HLV1 := Lib.hid (hgr.lv lv_five)
  have HC1 := Lib.hid (show 0 ≤ C1 ∧ C1 ≤ 600 by omega); have HBD1 := Lib.hid hbd; have S9 := Lib.hid hsv
  have HZ9 := Lib.hid (show W8.heap.size ≤ w9.heap.size from hk.size)
  clear hva hin hvn hV1 hN hbr9 hki1 him hok1 hsv hC hbd hmp hnm hgr hk hg hct hoc hoc1 hm1 h57 hg1 hz5 hs8 hsz hg2
  go_wp2_with fail
  refine HVA.out.mono ?_
  clear HVA
  rintro e w11 ⟨v, H2, rfl, hown, hsv, hal, hmt, hk⟩
  obtain ⟨va, vc, rfl, hna, hvb⟩ := nats_own hown
  rw [HN.out]
  have h57 := H57.out; have hg1 := HG1.out; have hz5 := HZ5.out; have hs8 := HS8.out; have hz9 := HZ9.out; have hf9 := S9.out.far
  have hbr11 := HBR9.out.kp hk (by omega) (by omega) (by omega) (fun j hj => by omega)
  have S11 := Lib.hid hsv; have HAL2 := Lib.hid hal; have HM2 := Lib.hid hmt; have HNA := Lib.hid hna; have HVB := Lib.hid hvb; have HBR11 := Lib.hid hbr11
  have HB11 := Lib.hid (HB9.out.trans (hk.below (m := w.heap.size) (by omega) (fun k h => by omega))); have HZ11 := Lib.hid (show w5.heap.size < w9.heap.size ∧ w9.heap.size ≤ w11.heap.size by have := hk.size; omega)
  have HGS := Lib.hid (show g2 < w9.heap.size ∧ w5.heap.size ≤ g2 from ⟨hf9.2.1, hf9.1⟩)
  clear hown hsv hal hmt hk hna hvb hbr11 h57 hg1 hz5 hs8 hz9 hf9
  go_upto_block 0 with fail
  go_cut [10, 11] from 12 to 80 (fun v10 v11 wx => ∃ (k : Nat) (ts : List Nat) (fa ta : Option Addr) (fc tc : Nat), k ≤ N ∧ k ≤ xn ∧ v10 = .slice fa k fc ∧ v11 = .slice ta k tc ∧ ts.length = k ∧ (∀ x ∈ ts, x < 5) ∧ wx.ownsRow w11.heap.size 3 1 (.slice fa k fc) k (natRow (V1.take k)) ∧ wx.ownsRow w11.heap.size 3 1 (.slice ta k tc) k (natRow ts) ∧ (∀ b, (Value.slice fa k fc).ownBlock = some b → (Value.slice ta k tc).ownBlock ≠ some b) ∧ Below w11.heap.size w11 wx)
  case first =>
    go_wp2_with fail
    go_loopg [10, 11, 12] N (fun gk v10 v11 v12 wr => ∃ (k : Nat) (ts : List Nat) (fa ta : Option Addr) (fc tc : Nat), (k ≤ N ∧ k ≤ xn) ∧ v10 = .slice fa k fc ∧ v11 = .slice ta k tc ∧ v12 = .int .i64 (k : Int) ∧ (ts.length = k ∧ ∀ x ∈ ts, x < 5) ∧ wr.ownsRow w11.heap.size 3 1 (.slice fa k fc) k (natRow (V1.take k)) ∧ wr.ownsRow w11.heap.size 3 1 (.slice ta k tc) k (natRow ts) ∧ (∀ b, (Value.slice fa k fc).ownBlock = some b → (Value.slice ta k tc).ownBlock ≠ some b) ∧ Below w11.heap.size w11 wr ∧ gk = N - k)
    case atStart => exact ⟨0, [], none, none, 0, 0, ⟨Nat.zero_le _, Nat.zero_le _⟩, rfl, rfl, rfl, ⟨rfl, fun x h => by cases h⟩, World.ownsRow_nil _ _ _ _, World.ownsRow_nil _ _ _ _, fun b h => by (simp [Value.ownBlock] at h), Below.refl _ _, rfl⟩
    case round =>
    obtain ⟨k, ts, fa, ta, fc, tc, ⟨hkN, hkx⟩, rfl, rfl, rfl, ⟨htl, ht5⟩, hof, hot, hap, hb, rfl⟩ := hrel
    have HKX := Lib.hid hkx
    have HOF := Lib.hid hof; have HOT := Lib.hid hot; have HAP := Lib.hid hap; have HBW := Lib.hid hb; have HTL := Lib.hid htl; have HT5 := Lib.hid ht5
    clear hof hot hap hb htl ht5 hkx
    by_cases h1 : k < N
    · have hb1 : decide ((k : Int) < (N : Int)) = true := by simpa using h1
      by_cases h2 : k < xn
      · have hb2 : decide ((k : Int) < (xn : Int)) = true := by simpa using h2
        have hkl : k < V1.length := by rw [HN.out]; exact h1
        obtain ⟨bq, rfl, hcq⟩ := HNA.out k hkl
        obtain ⟨q1, q2⟩ := HVB.out bq 0 rfl
        have hcr : wr.cell? ⟨bq, k, none⟩ = some (.int .i64 (V1[k] : Int)) := (World.cell?_of_block (a := ⟨bq, k, none⟩) (HBW.out.block bq q2)).trans hcq
        have hxl : k < xs.length := by rw [HXS.out.len]; exact h2
        obtain ⟨bx, ox, rfl, hbx, hcx⟩ := HXS.out.row (fun e => by rw [e] at hxl; simp at hxl)
        have hbx2 : bx < w11.heap.size := by have := HB11.out.size; omega
        have hcx1 : wr.cell? ⟨bx, ox + k, none⟩ = some (.int .i64 xs[k]) := (World.cell?_of_block (a := ⟨bx, ox + k, none⟩) (((HB11.out.trans (HBW.out.mono HB11.out.size)).block bx hbx))).trans (hcx k hxl)
        have hx64 := HXS.out.int xs[k] (List.getElem_mem hxl)
        obtain ⟨x, hx⟩ : ∃ x, xs[k] = x := ⟨_, rfl⟩
        obtain ⟨i, hi0⟩ : ∃ i, V1[k] = i := ⟨_, rfl⟩
        have hnt := natRow_take hkl
        rw [hi0] at hcr hnt
        rw [hx] at hcx1 hx64
        obtain ⟨b1, b2⟩ := b8n (show k ≤ 4000000 by have := HX10.out; omega)
        obtain ⟨i0, hi, hz0, hz1, hz2⟩ := info_parts info_int
        have B1 := Lib.hid b1; have B2 := Lib.hid b2
        have hkk : wrap64 ((k : Int) + 1) = ((k + 1 : Nat) : Int) := by have := HX10.out; unfold wrap64; omega
        have HKK := Lib.hid hkk; have HNT := Lib.hid hnt; have HX64 := Lib.hid hx64; have HBX := Lib.hid hbx2; have HBQ := Lib.hid (And.intro q1 q2); have HCX := Lib.hid hcx1; have HXE := Lib.hid hx; have HIE := Lib.hid hi0
        have HBS := Lib.hid HBW.out.size
        clear hkk hnt hx64 hcq hbx hcx q1 q2 hx hi0 b1 b2
        obtain ⟨i1, i2⟩ := pt_int h1
        obtain ⟨j1, j2⟩ := pt_int h2
        have hbt := fun z (hz : (Value.slice ta k tc).ownBlock = some z) => HOT.out.lt z hz
        have hbf := fun z (hz : (Value.slice fa k fc).ownBlock = some z) => HOF.out.lt z hz
        have HBT := Lib.hid hbt; have HBF := Lib.hid hbf
        clear hbt hbf
        go_wp2_with (first
          | (at_builtin; refine wpList_append_lies _ rfl (.tmp 66) (.tmp 71) 27 rfl w11.heap.size 3 i0 (.int .i64 0) 1 8 Try.underlying27 hi hz0 hz1 hz2 rfl (by decide) (.slice fa k fc) k (natRow (V1.take k)) rfl (HOF.out.alloc _) ⟨wr.heap.size, 0, none⟩ 1 1 [.int .i64 (i : Int)] rfl rfl (World.news_of_block (World.alloc_heap_new wr _)) (by simp [Value.oneCell']) (by decide) B2.out B1.out (Nat.le_trans HBS.out (by simp)) _ rfl ?_; intro ga capa w7a howna hgra hlya hlta; (have hca : w7a.cell? ⟨bx, ox + k, none⟩ = some (.int .i64 x) := (hgra.cell_far ⟨bx, ox + k, none⟩ (by rw [World.size_alloc]; dsimp only; have := HBX.out; have := HBS.out; omega) (fun e => by have h9 : w11.heap.size ≤ bx := (HBF.out bx e.symm).1; have := HBX.out; omega)).trans ((World.cell?_of_block (a := ⟨bx, ox + k, none⟩) (Below.heap_alloc _ _ _ (by have := HBX.out; have := HBS.out; dsimp only; omega))).trans hcx1)); (have HTA := Lib.hid (own_same HOT.out (fun z hz => (hgra.block z (by rw [World.size_alloc]; have := (HBT.out z hz).2; omega) (fun e => HAP.out z e.symm hz)).trans (Below.heap_alloc _ _ _ (HBT.out z hz).2)))); (have HBA := Lib.hid ((HBW.out.alloc HBS.out _).grown hgra (Nat.le_trans HBS.out (by simp)) (fun z hz => (HBF.out z hz).1))); (have HOA := Lib.hid howna); (have HGA := Lib.hid hgra); (have HLYA := Lib.hid (show (Value.slice fa k fc).ownBlock = some ga ∨ ga = wr.heap.size + 1 from by rw [World.size_alloc] at hlya; exact hlya)); (have HLTA := Lib.hid (show ga < w7a.heap.size ∧ wr.heap.size < w7a.heap.size from ⟨hlta, by have := hgra.size; rw [World.size_alloc] at this; omega⟩)); (obtain ⟨y, hy5, hint⟩ := int5_any x w7a); (have HY5 := Lib.hid hy5); (have HINT := Lib.hid hint); clear howna hgra hlya hlta hy5 hint)
          | (go_at_call 23; refine HINT.out.mono ?_; rintro e wq ⟨rfl, hq⟩; rw [hq]; clear hq wq)
          | (at_builtin; refine wpList_append_lies _ rfl (.tmp 73) (.tmp 79) 27 rfl w11.heap.size 3 i0 (.int .i64 0) 1 8 Try.underlying27 hi hz0 hz1 hz2 rfl (by decide) (.slice ta k tc) k (natRow ts) rfl (HTA.out.alloc _) ⟨w7a.heap.size, 0, none⟩ 1 1 [.int .i64 (y : Int)] rfl rfl (World.news_of_block (World.alloc_heap_new w7a _)) (by simp [Value.oneCell']) (by decide) B2.out B1.out (Nat.le_trans HBA.out.size (by simp)) _ rfl ?_; intro gb capb w8b hownb hgrb hlyb hltb; (have HOB := Lib.hid hownb); (have HGB := Lib.hid hgrb); (have HLYB := Lib.hid (show (Value.slice ta k tc).ownBlock = some gb ∨ gb = w7a.heap.size + 1 from by rw [World.size_alloc] at hlyb; exact hlyb)); clear hownb hgrb hlyb hltb))
        have hga : (Value.slice ta k tc).ownBlock ≠ some ga := fun e => by
          rcases HLYA.out with h | h
          · exact HAP.out ga h e
          · have := (HBT.out ga e).2; omega
        go_roundg (N - (k + 1))
        case measure => omega
        case rel =>
          refine ⟨k + 1, ts ++ [y], some ⟨ga, 0, none⟩, some ⟨gb, 0, none⟩, capa, capb, ⟨h1, h2⟩, rfl, rfl, congrArg (Value.int .i64) HKK.out, ⟨by rw [List.length_append, HTL.out]; rfl, fun z hz => ?_⟩, ?_, ?_, fun b hb e => ?_, (HBA.out.alloc HBA.out.size _).grown HGB.out (Nat.le_trans HBA.out.size (by simp)) (fun z hz => (HBT.out z hz).1), rfl⟩
          · rcases List.mem_append.1 hz with hz | hz
            · exact HT5.out z hz
            · obtain rfl := List.mem_singleton.1 hz; exact HY5.out
          · rw [HNT.out]
            refine own_same HOA.out (fun z hz => ?_)
            have hz' : ga = z := by simpa [Value.ownBlock] using hz
            subst hz'
            exact (HGB.out.block ga (by rw [World.size_alloc]; have := HLTA.out.1; omega) (fun e => hga e.symm)).trans (Below.heap_alloc _ _ _ HLTA.out.1)
          · rw [natRow_app]; exact HOB.out
          · have hb' : ga = b := by simpa [Value.ownBlock] using hb
            have he' : gb = b := by simpa [Value.ownBlock] using e
            rcases HLYB.out with h | h
            · exact hga (by rw [h, he', hb'])
            · have := HLTA.out.1; omega
      · have hb2 : decide ((k : Int) < (xn : Int)) = false := by simpa using h2
        go_wp2_with fail
        go_meet
        case rel => exact ⟨k, ts, fa, ta, fc, tc, hkN, HKX.out, rfl, rfl, HTL.out, HT5.out, HOF.out, HOT.out, HAP.out, HBW.out⟩
    · have hb1 : decide ((k : Int) < (N : Int)) = false := by simpa using h1
      go_wp2_with fail
      go_meet
      case rel => exact ⟨k, ts, fa, ta, fc, tc, hkN, HKX.out, rfl, rfl, HTL.out, HT5.out, HOF.out, HOT.out, HAP.out, HBW.out⟩
  case rest =>
  obtain ⟨k, ts, fa, ta, fc, tc, hkN, hkx, rfl, rfl, htl, ht5, hof, hot, hap, hb⟩ := hcut
  have hbt := fun z (hz : (Value.slice ta k tc).ownBlock = some z) => hot.lt z hz
  have hbf := fun z (hz : (Value.slice fa k fc).ownBlock = some z) => hof.lt z hz
  have hz11 := HZ11.out; have hgs := HGS.out; have hf11 := S11.out.far
  have hlen2 : H2.length = H1.length := HAL2.out.len.symm
  have hva := var12_any (S11.out.below hb) (HBD1.out.len hlen2) 9 (by decide) (by have := HC1.out; omega)
  have hlv2 : LvOk H2 := fun i hi => by
    obtain ⟨d, q1, q2, q3⟩ := HLV1.out i hi
    obtain ⟨e, r1, r2, r3, _⟩ := HAL2.out.get q1
    exact ⟨e, r1, r2.trans q2, r3.trans q3⟩
  have him2 : Im H2 M1 t p := HIM1.out.carry (Car.of_alk HAL2.out)
  have HVA := Lib.hid hva; have HOF := Lib.hid hof; have HOT := Lib.hid hot; have HAP := Lib.hid hap; have HBT := Lib.hid hbt; have HBF := Lib.hid hbf; have HTL := Lib.hid htl; have HT5 := Lib.hid ht5; have HLV2 := Lib.hid hlv2; have HIM2 := Lib.hid him2; have HKN := Lib.hid hkN; have HKX := Lib.hid hkx; have HLEN2 := Lib.hid hlen2
  have HBW := Lib.hid hb; have HB12 := Lib.hid (HB11.out.trans (hb.mono HB11.out.size)); have HZ12 := Lib.hid hb.size
  clear hva hof hot hap hbt hbf htl ht5 hlv2 him2 hkN hkx hb hz11 hgs hf11 hlen2
  go_wp2_with fail
  refine HVA.out.mono ?_
  clear HVA
  rintro e w13 ⟨rfl, g3, cap3, hsv, hk, hg3⟩
  obtain ⟨o, ho⟩ : ∃ o, H2.length = o := ⟨_, rfl⟩
  rw [ho]
  have hz11 := HZ11.out; have hgs := HGS.out; have hz12 := HZ12.out; have h57 := H57.out; have hs8 := HS8.out; have hz9 := HZ9.out
  have hof13 := own_same HOF.out (fun z hz => hk.block z (HBF.out z hz).2 (fun e => by have := (HBF.out z hz).1; omega))
  have hot13 := own_same HOT.out (fun z hz => hk.block z (HBT.out z hz).2 (fun e => by have := (HBT.out z hz).1; omega))
  have hz13 := hk.size
  have hb13 : Below w.heap.size w w13 := HB12.out.trans (hk.below (m := w.heap.size) (by have := HB12.out.size; omega) (fun k h => by have := HZ5.out; omega))
  have hbrc : BoxR wc w.heap.size t k0 n0 m0 a cap 0 w.heap.size := by
    have hb := HB12.out
    exact ⟨((HBW.out).block w.heap.size (by have := HZ5.out; omega)).trans HBR11.out.box, ty_same (fun j hj => (HBW.out).block j (by have := hj.2; have := HZ5.out; omega)) (fun _ h => h) HBR11.out.ty⟩
  have hbr13 := hbrc.kp hk (by have := HZ5.out; omega) (by have := HZ5.out; omega) (by have := HZ5.out; omega) (fun j hj => by have := HZ5.out; omega)
  have HOF3 := Lib.hid hof13; have HOT3 := Lib.hid hot13; have S13 := Lib.hid hsv; have HB13 := Lib.hid hb13; have HBR13 := Lib.hid hbr13; have HZ13 := Lib.hid hz13
  have HG3 := Lib.hid (show g3 = g2 ∨ wc.heap.size ≤ g3 from hg3); have HO := Lib.hid ho
  have HK10 := Lib.hid (show k ≤ 10 by have := HKX.out; have := HX10.out; omega)
  obtain ⟨b1, b2⟩ := b8n (show k ≤ 4000000 by have := HK10.out; omega)
  obtain ⟨i0, hi, hz0, hz1, hz2⟩ := info_parts info_int
  have B1 := Lib.hid b1; have B2 := Lib.hid b2
  have HBS := Lib.hid (show w11.heap.size ≤ w13.heap.size by omega)
  clear hof13 hot13 hsv hk hg3 ho hb13 hbrc hbr13 hz13 hz11 hgs hz12 h57 hs8 hz9 b1 b2
  go_wp2_with (first
    | (at_builtin; refine wpList_append_lies _ rfl (.tmp 86) (.tmp 88) 27 rfl w11.heap.size 3 i0 (.int .i64 0) 1 8 Try.underlying27 hi hz0 hz1 hz2 rfl (by decide) (.slice fa k fc) k (natRow (V1.take k)) rfl (HOF3.out.alloc _) ⟨w13.heap.size, 0, none⟩ 1 1 [.int .i64 (o : Int)] rfl rfl (World.news_of_block (World.alloc_heap_new w13 _)) (by simp [Value.oneCell']) (by decide) B2.out B1.out (Nat.le_trans HBS.out (by simp)) _ rfl ?_; intro ga capa w7a howna hgra hlya hlta; (have HTA := Lib.hid (own_same HOT3.out (fun z hz => (hgra.block z (by rw [World.size_alloc]; have := (HBT.out z hz).2; have := HZ13.out; omega) (fun e => HAP.out z e.symm hz)).trans (Below.heap_alloc _ _ _ (by have := (HBT.out z hz).2; have := HZ13.out; omega))))); (have HKA := Lib.hid (((Kp.refl w13.heap.size (fun j => w11.heap.size ≤ j ∧ j < wc.heap.size) w13).alloc (Nat.le_refl _) _).grown hgra (by simp) (fun z hz => .inr (HBF.out z hz)))); (have HOA := Lib.hid howna); (have HLYA := Lib.hid (show (Value.slice fa k fc).ownBlock = some ga ∨ ga = w13.heap.size + 1 from by rw [World.size_alloc] at hlya; exact hlya)); (have HLTA := Lib.hid (show ga < w7a.heap.size ∧ w13.heap.size < w7a.heap.size from ⟨hlta, by have := hgra.size; rw [World.size_alloc] at this; omega⟩)); (have HBSA := Lib.hid (show w11.heap.size ≤ w7a.heap.size by have := HBS.out; have := hgra.size; rw [World.size_alloc] at this; omega)); clear howna hgra hlya hlta)
    | (at_builtin; refine wpList_append_lies _ rfl (.tmp 90) (.tmp 91) 27 rfl w11.heap.size 3 i0 (.int .i64 0) 1 8 Try.underlying27 hi hz0 hz1 hz2 rfl (by decide) (.slice ta k tc) k (natRow ts) rfl (HTA.out.alloc _) ⟨w7a.heap.size, 0, none⟩ 1 1 [.int .i64 0] rfl rfl (World.news_of_block (World.alloc_heap_new w7a _)) (by simp [Value.oneCell']) (by decide) B2.out B1.out (Nat.le_trans HBSA.out (by simp)) _ rfl ?_; intro gb capb w14 hownb hgrb hlyb hltb; (have HOB := Lib.hid hownb); (have HGB := Lib.hid hgrb); (have HLYB := Lib.hid (show (Value.slice ta k tc).ownBlock = some gb ∨ gb = w7a.heap.size + 1 from by rw [World.size_alloc] at hlyb; exact hlyb)); (have HLTB := Lib.hid hltb); clear hownb hgrb hlyb hltb))
  have hga : (Value.slice ta k tc).ownBlock ≠ some ga := fun e => by
    rcases HLYA.out with h | h
    · exact HAP.out ga h e
    · have := (HBT.out ga e).2; have := HZ13.out; omega
  have hoa14 := own_same HOA.out (fun z hz => by
    have hz' : ga = z := by simpa [Value.ownBlock] using hz
    subst hz'
    exact (HGB.out.block ga (by rw [World.size_alloc]; have := HLTA.out.1; omega) (fun e => hga e.symm)).trans (Below.heap_alloc _ _ _ HLTA.out.1))
  have hkb : Kp w13.heap.size (fun j => w11.heap.size ≤ j ∧ j < wc.heap.size) w13 w14 :=
    (HKA.out.alloc (by have := HKA.out.size; omega) _).grown HGB.out (by rw [World.size_alloc]; have := HKA.out.size; omega) (fun z hz => .inr (HBT.out z hz))
  have hz11 := HZ11.out; have hgs := HGS.out; have hz12 := HZ12.out; have hz13 := HZ13.out; have hz5 := HZ5.out; have hg3 := HG3.out; have hf13 := S13.out.far; have hlta := HLTA.out
  have hs14 : w7a.heap.size ≤ w14.heap.size := by have := HGB.out.size; rw [World.size_alloc] at this; omega
  have hsv14 := S13.out.same (hkb.block w5.heap.size hf13.2.2.1 (by omega)) (hkb.block g3 hf13.2.1 (by omega))
  have hgf : w11.heap.size ≤ ga ∧ ga < w14.heap.size ∧ ga ≠ g3 := by
    rcases HLYA.out with h | h
    · have := HBF.out ga h; omega
    · omega
  have hgt : w11.heap.size ≤ gb ∧ gb < w14.heap.size ∧ gb ≠ g3 := by
    have h9 := HLTB.out
    rcases HLYB.out with h | h
    · have := HBT.out gb h; omega
    · omega
  obtain ⟨fs, hfs⟩ : ∃ fs, V1.take k ++ [o] = fs := ⟨_, rfl⟩
  obtain ⟨ts', hts'⟩ : ∃ ts', ts ++ [0] = ts' := ⟨_, rfl⟩
  have hlf : fs.length = k + 1 := by rw [← hfs, List.length_append, List.length_take, HN.out, Nat.min_eq_left HKN.out]; rfl
  have hlt : ts'.length = k + 1 := by rw [← hts', List.length_append, HTL.out]; rfl
  have hnf : NatsAt w14 fs (some ⟨ga, 0, none⟩) := by
    have e : natRow (V1.take k) ++ [Value.int .i64 (o : Int)] = natRow fs := by rw [← hfs, natRow_app]
    rw [e, ← hlf] at hoa14
    obtain ⟨a9, c9, h9, hn9, _⟩ := nats_own hoa14
    injection h9 with h9
    rw [h9]; exact hn9
  have hnt : NatsAt w14 ts' (some ⟨gb, 0, none⟩) := by
    have e : natRow ts ++ [Value.int .i64 0] = natRow ts' := by rw [← hts', natRow_app]; rfl
    have hob := HOB.out
    rw [e, ← hlt] at hob
    obtain ⟨a9, c9, h9, hn9, _⟩ := nats_own hob
    injection h9 with h9
    rw [h9]; exact hn9
  have ho := HO.out; have hl2 := HLEN2.out
  have hfv : ∀ x ∈ fs, ∃ d : SNd, (H2 ++ [(⟨⟨6, 9, 0, 0, 0⟩, o⟩ : SNd)])[x]? = some d ∧ d.up = x ∧ d.c.kind = 6 := fun x hx => by
    rw [← hfs] at hx
    rcases List.mem_append.1 hx with hx | hx
    · obtain ⟨kk, hkk⟩ := (HIN.out x).1 (List.mem_of_mem_take hx)
      obtain ⟨d, q1, q2, q3⟩ := HOK1.out kk x hkk
      obtain ⟨e, r1, r2, r3, _⟩ := HAL2.out.get q1
      exact ⟨e, by rw [List.getElem?_append_left (List.getElem?_eq_some_iff.1 r1).1]; exact r1, r2.trans q2, r3.trans q3⟩
    · obtain rfl := List.mem_singleton.1 hx
      exact ⟨_, by rw [← ho]; exact last12 _ _, ho, rfl⟩
  have hmo : ∀ kk, M1 kk ≠ some o := fun kk h => by have := HOK1.out.lt h; omega
  have hfn : fs.Nodup := by
    rw [← hfs]
    refine List.nodup_append.2 ⟨HVN.out.sublist (List.take_sublist _ _), by simp, fun x hx y hy e => ?_⟩
    obtain rfl := List.mem_singleton.1 hy
    subst e
    obtain ⟨kk, hkk⟩ := (HIN.out x).1 (List.mem_of_mem_take hx)
    exact hmo kk hkk
  have ht5 : ∀ x ∈ ts', x < 5 := fun x hx => by
    rw [← hts'] at hx
    rcases List.mem_append.1 hx with hx | hx
    · exact HT5.out x hx
    · obtain rfl := List.mem_singleton.1 hx; decide
  obtain ⟨H3, hH3⟩ : ∃ H3, H2 ++ [(⟨⟨6, 9, 0, 0, 0⟩, o⟩ : SNd)] = H3 := ⟨_, rfl⟩
  have him3 : Im H3 M1 t p := by rw [← hH3]; exact HIM2.out.mono (fun _ _ h => h)
  have hlv3 : LvOk H3 := fun i hi => by
    obtain ⟨d, q1, q2, q3⟩ := HLV2.out i hi
    exact ⟨d, by rw [← hH3, List.getElem?_append_left (List.getElem?_eq_some_iff.1 q1).1]; exact q1, q2, q3⟩
  have hm3 : ∀ d ∈ H3, d.c.met ≤ 1 := fun d hd => by
    rw [← hH3] at hd
    rcases List.mem_append.1 hd with hd | hd
    · exact HM2.out d hd
    · obtain rfl := List.mem_singleton.1 hd; exact (by decide : (0 : Int) ≤ 1)
  have hki3 : ∀ d ∈ H3, I64 d.c.kind := fun d hd => by
    rw [← hH3] at hd
    rcases List.mem_append.1 hd with hd | hd
    · exact Alk.kinds HAL2.out HKI1.out d hd
    · obtain rfl := List.mem_singleton.1 hd; exact (show I64 (6 : Int) from by unfold I64; decide)
  rw [hH3] at hfv
  have hn3 : H3.length = H1.length + 1 := by rw [← hH3, List.length_append, hl2]; rfl
  have hsv14 : SV w5.heap.size w5.heap.size g3 cap3 65536 (C1 + 1) 1 w14 H3 := by rw [← hH3, ← ho]; exact hsv14
  have hbd3 : Bds 65536 (C1 + 1) H3 := ⟨by have := HC1.out; omega, by have := HC1.out; omega, by decide, by rw [hn3]; have := HBD1.out.n; omega⟩
  obtain ⟨z, hz⟩ : ∃ z, ren M1 t = z := ⟨_, rfl⟩
  have hzs : Tp.size z ≤ 600 := by rw [← hz, ren_size]; exact HSZ.out
  obtain ⟨zk, zn, zm, hzv⟩ := TV.mk z
  have hrd := read12_any hsv14 hm3 ⟨by decide, by decide⟩ hbd3 (t := z) (p := p) (by rw [← hz]; exact him3.den) (by omega) hki3
  have hbr14 := HBR13.out.kp hkb (by omega) (by omega) (by omega) (fun j hj => by omega)
  have HB14 := Lib.hid (HB13.out.trans (hkb.below (m := w.heap.size) (by have := HB13.out.size; omega) (fun k h => by omega)))
  have HRD := Lib.hid hrd; have S14 := Lib.hid hsv14; have HBR14 := Lib.hid hbr14; have HM3 := Lib.hid hm3; have HKI3 := Lib.hid hki3; have HBD3 := Lib.hid hbd3; have HIM3 := Lib.hid him3; have HLV3 := Lib.hid hlv3; have HFV := Lib.hid hfv; have HFN := Lib.hid hfn; have HT5' := Lib.hid ht5; have HMO := Lib.hid hmo; have HLF := Lib.hid hlf; have HLT := Lib.hid hlt; have HNF := Lib.hid hnf; have HNT := Lib.hid hnt; have HGF := Lib.hid hgf; have HGT := Lib.hid hgt; have HZE := Lib.hid hz; have HZS := Lib.hid hzs; have HZV := Lib.hid hzv; have HFS := Lib.hid hfs; have HN3 := Lib.hid hn3
  have HZ14 := Lib.hid (show w13.heap.size ≤ w14.heap.size by omega)
  have HGG := Lib.hid (show g3 < w14.heap.size ∧ w5.heap.size ≤ g3 ∧ (g3 < w11.heap.size ∨ wc.heap.size ≤ g3) by omega)
  clear hga hoa14 hkb hz11 hgs hz12 hz13 hz5 hg3 hf13 hlta hs14 hsv14 hgf hgt hlf hlt hnf hnt ho hl2 hfv hmo hfn ht5 hH3 him3 hlv3 hm3 hki3 hn3 hbd3 hz hzs hzv hrd hbr14 hfs hts'
  refine HRD.out.mono ?_
  clear HRD
  rintro e w15 ⟨hk, H4, ha4, hm4, h⟩
  rw [if_pos (by have := HC1.out; have := HZS.out; omega)] at h
  obtain ⟨⟨a4, c4, rfl, hty4⟩, hsv⟩ := h
  rw [tv_of HZV.out]
  have hsv : SV w5.heap.size w5.heap.size g3 cap3 65536 (C1 + 1 + (Tp.size z : Int)) 2 w15 H4 := hsv
  have hz15 := hk.size; have hgg := HGG.out; have hgf := HGF.out; have hgt := HGT.out; have hz11 := HZ11.out; have hz5 := HZ5.out; have hz14 := HZ14.out; have hz13 := HZ13.out; have hz12 := HZ12.out
  have hbr15 := HBR14.out.kp hk (by omega) (by omega) (by omega) (fun j hj => by omega)
  have HB15 := Lib.hid (HB14.out.trans (hk.below (m := w.heap.size) (by have := HB14.out.size; omega) (fun k h => by omega)))
  have hnf := HNF.out.keep (w' := w15) (fun bq oo e => by injection e with e; injection e with e1 _ _; subst e1; exact hk.block ga (by omega) (by omega))
  have hnt := HNT.out.keep (w' := w15) (fun bq oo e => by injection e with e; injection e with e1 _ _; subst e1; exact hk.block gb (by omega) (by omega))
  have S15 := Lib.hid hsv; have HAL4 := Lib.hid ha4; have HM4 := Lib.hid hm4; have HTY4 := Lib.hid hty4; have HBR15 := Lib.hid hbr15; have HNF5 := Lib.hid hnf; have HNT5 := Lib.hid hnt; have HZ15 := Lib.hid hz15
  clear hsv ha4 hm4 hty4 hk hbr15 hnf hnt hz15 hgg hgf hgt hz11 hz5 hz14 hz13 hz12
  go_upto_region 20 with fail
  obtain ⟨W6, hW6⟩ : ∃ W, w15.alloc (.cells #[.int .i64 zk, .int .i64 zn, .slice a4 zm c4] 26) = W := ⟨_, rfl⟩
  rw [hW6]
  have hb6 : Below w15.heap.size w15 W6 := by rw [← hW6]; exact (Below.refl _ _).alloc (Nat.le_refl _) _
  have hx6 : W6.heap[w15.heap.size]? = some (.cells #[.int .i64 zk, .int .i64 zn, .slice a4 zm c4] 26) := by rw [← hW6]; exact World.alloc_heap_new _ _
  have hz6 : W6.heap.size = w15.heap.size + 1 := by rw [← hW6, World.size_alloc]
  have hbw6 : BoxR W6 w15.heap.size z zk zn zm a4 c4 w14.heap.size w15.heap.size := ⟨hx6, ty_same (fun k hk => hb6.block k hk.2) (fun _ h => h) HTY4.out⟩
  have hbr6 := HBR15.out.below hb6 (by have := HB15.out.size; have := HZ5.out; have := HZ11.out; have := HZ15.out; have := HZ14.out; have := HZ13.out; have := HZ12.out; omega) (by have := HB15.out.size; omega)
  have hn4 : H4.length = H1.length + 1 := by rw [← HAL4.out.len]; exact HN3.out
  have him4 : Im H4 M1 t p := HIM3.out.carry (Car.of_alk HAL4.out)
  have hlv4 : LvOk H4 := fun i hi => by
    obtain ⟨d, q1, q2, q3⟩ := HLV3.out i hi
    obtain ⟨e, r1, r2, r3, _⟩ := HAL4.out.get q1
    exact ⟨e, r1, r2.trans q2, r3.trans q3⟩
  have hfv4 : ∀ i (hi : i < fs.length), ∃ d : SNd, H4[fs[i]]? = some d ∧ d.up = fs[i] ∧ d.c.kind = 6 := fun i hi => by
    obtain ⟨d, q1, q2, q3⟩ := HFV.out fs[i] (List.getElem_mem hi)
    obtain ⟨e, r1, r2, r3, _⟩ := HAL4.out.get q1
    exact ⟨e, r1, r2.trans q2, r3.trans q3⟩
  have hlen : fs.length = ts'.length := HLF.out.trans HLT.out.symm
  have hn5 : 5 ≤ H4.length := by
    obtain ⟨d, q1, _⟩ := hlv4 4 (by decide)
    have := (List.getElem?_eq_some_iff.1 q1).1; omega
  obtain ⟨MM, ll, hch, hll, hval, hden, hone⟩ := copy_all him4 hlv4 hfv4 HFN.out hlen HT5'.out
  rw [HZE.out] at hch hden
  have hin := Tp.size_pos t
  have hinn : ll.length ≤ 600 := by have := inner_le t; have := HSZ.out; omega
  have hbd4 : Bds 65536 (C1 + 1 + (Tp.size z : Int)) H4 := ⟨by have := HC1.out; omega, by have := HC1.out; have := HZS.out; omega, by decide, by rw [hn4]; have := HBD1.out.n; omega⟩
  have hkeep := fun (l : List Nat) (b : Nat) (h : NatsAt w15 l (some ⟨b, 0, none⟩)) (hb : b < w15.heap.size) => h.keep (w' := W6) (fun bq oo e => by injection e with e; injection e with e1 _ _; subst e1; exact hb6.block _ hb)
  have hnf6 := hkeep fs ga HNF5.out (by have := HGF.out; have := HZ15.out; omega)
  have hnt6 := hkeep ts' gb HNT5.out (by have := HGT.out; have := HZ15.out; omega)
  have hcp := copy12_any (S15.out.below hb6) HM4.out ⟨by decide, by decide⟩ hbd4 (t := z) (p := p) (by rw [← HZE.out]; exact him4.den) (by have := HZS.out; omega) fs ts' (some ⟨ga, 0, none⟩) (some ⟨gb, 0, none⟩) capa capb hlen (by rw [HLF.out]; have := HK10.out; omega) hnf6 hnt6
    (fun b o e => by injection e with e; injection e with e1 _ _; subst e1; have := HGF.out; have := HZ15.out; omega) (fun b o e => by injection e with e; injection e with e1 _ _; subst e1; have := HGT.out; have := HZ15.out; omega)
    hfv4 HFN.out (fun x hx => by have := HT5'.out x hx; omega) (by rw [← HZE.out]; exact trav_nodup him4 List.nodup_nil) hch (by have := HC1.out; have := HZS.out; omega) hval
  rw [him4.root, HLF.out, HLT.out] at hcp
  obtain ⟨cn, hcn⟩ : ∃ cn, cpOf MM p = cn := ⟨_, rfl⟩
  obtain ⟨ln, hln⟩ : ∃ ln, ll.length = ln := ⟨_, rfl⟩
  have HCP := Lib.hid hcp; have S16 := Lib.hid (S15.out.below hb6); have HBW6 := Lib.hid hbw6; have HBR6 := Lib.hid hbr6; have HN4 := Lib.hid hn4; have HDEN := Lib.hid hden; have HONE := Lib.hid hone; have HLL := Lib.hid (show ln ≤ inner t by rw [← hln]; exact hll); have HINN := Lib.hid (show ln ≤ 600 by rw [← hln]; exact hinn); have HNF6 := Lib.hid hnf6; have HNT6 := Lib.hid hnt6; have HZ6 := Lib.hid hz6; have HCN := Lib.hid hcn; have HLN := Lib.hid hln; have HBD4 := Lib.hid hbd4; have HIM4 := Lib.hid him4
  have HB16 := Lib.hid (HB15.out.trans (hb6.mono HB15.out.size)); have HW6 := Lib.hid hW6
  have HKI4 := Lib.hid (Alk.kinds HAL4.out HKI3.out)
  clear hW6 hb6 hx6 hz6 hbw6 hbr6 hn4 him4 hlv4 hfv4 hlen hn5 hch hll hval hden hone hin hinn hbd4 hkeep hnf6 hnt6 hcp hcn hln
  go_wp2_with fail
  refine (count12_any S16.out).mono ?_
  rintro e wq ⟨rfl, hq⟩
  rw [hq]; clear hq wq
  go_wp2_with fail
  refine HCP.out.mono ?_
  clear HCP
  rintro e w17 ⟨H5, g5, cap5, ha5, hm5, rfl, hsv, hk, hg5⟩
  rw [HCN.out]
  obtain ⟨q, hq⟩ : ∃ q, C1 + 1 + (Tp.size z : Int) = q := ⟨_, rfl⟩
  have hqb : 0 ≤ q ∧ q ≤ 1300 := by have := HC1.out; have := HZS.out; omega
  rw [HLN.out, hq] at hsv
  have hsv : SV w5.heap.size w5.heap.size g5 cap5 65536 (q + (ln : Int)) 3 w17 (cpAll H5 MM ll) := hsv
  obtain ⟨hd1, hd2, him6⟩ := HDEN.out H5 ha5
  have hl6 : (cpAll H5 MM ll).length = H1.length + 1 + ln := by rw [cpAll_len, ← ha5.len, HN4.out, HLN.out]
  have hm6 : ∀ d ∈ cpAll H5 MM ll, d.c.met ≤ 3 := cpAll_all hm5 (fun r n => cpNode_met (by decide) hm5 r)
  have hki5 := Alk.kinds ha5 HKI4.out
  have hki6 : ∀ d ∈ cpAll H5 MM ll, I64 d.c.kind := cpAll_all hki5 (fun r n => cpNode_kind hki5 r)
  obtain ⟨u, hu⟩ : ∃ u, putR (fnd fs ts') z = u := ⟨_, rfl⟩
  have hus : Tp.size u ≤ 600 := by rw [← hu]; exact Nat.le_trans (putR_size _ _) HZS.out
  obtain ⟨uk, un, um, huv⟩ := TV.mk u
  rw [hu, HCN.out] at hd1
  obtain ⟨H6, hH6⟩ : ∃ H6, cpAll H5 MM ll = H6 := ⟨_, rfl⟩
  rw [hH6] at hsv hd1 hd2 hl6 hm6 hki6 him6
  have hbd6 : Bds 65536 (q + (ln : Int)) H6 := ⟨by omega, by have := HINN.out; omega, by decide, by rw [hl6]; have := HBD1.out.n; have := HZS.out; omega⟩
  have hrd := read12_any hsv hm6 ⟨by decide, by decide⟩ hbd6 hd2 (by have := HZS.out; omega) hki6
  have hgg := HGG.out; have hgf := HGF.out; have hgt := HGT.out; have hz11 := HZ11.out; have hz5 := HZ5.out; have hz14 := HZ14.out; have hz13 := HZ13.out; have hz12 := HZ12.out; have hz15 := HZ15.out; have hz6 := HZ6.out; have hz17 := hk.size
  have hbr17 := HBR6.out.kp hk (by omega) (by omega) (by omega) (fun j hj => by omega)
  have hbw17 := HBW6.out.kp hk (by omega) (by omega) (by omega) (fun j hj => by omega)
  have HB17 := Lib.hid (HB16.out.trans (hk.below (m := w.heap.size) (by have := HB16.out.size; omega) (fun k h => by omega)))
  have HNF7 := Lib.hid (HNF6.out.keep (w' := w17) (fun bq oo e => by injection e with e; injection e with e1 _ _; subst e1; exact hk.block ga (by omega) (by omega)))
  have HNT7 := Lib.hid (HNT6.out.keep (w' := w17) (fun bq oo e => by injection e with e; injection e with e1 _ _; subst e1; exact hk.block gb (by omega) (by omega)))
  have hmade : wrap64 (q + (ln : Int) - q) = (ln : Int) := by have := HINN.out; unfold wrap64; omega
  have HG5 := Lib.hid (show w5.heap.size ≤ g5 ∧ g5 < w17.heap.size ∧ (g5 = g3 ∨ W6.heap.size ≤ g5) by have := hsv.far; omega)
  have S17 := Lib.hid hsv; have HRD := Lib.hid hrd; have HD1 := Lib.hid hd1; have HM6 := Lib.hid hm6; have HKI6 := Lib.hid hki6; have HL6 := Lib.hid hl6; have HBD6 := Lib.hid hbd6; have HBR17 := Lib.hid hbr17; have HBW17 := Lib.hid hbw17; have HQB := Lib.hid hqb; have HUE := Lib.hid hu; have HUS := Lib.hid hus; have HUV := Lib.hid huv; have HIM6 := Lib.hid him6; have HZ17 := Lib.hid hz17; have HMADE := Lib.hid hmade
  rw [hq]
  clear hq hqb hsv hd1 hd2 him6 hl6 hm6 hki5 hki6 hu hus huv hH6 hbd6 hrd hgg hgf hgt hz11 hz5 hz14 hz13 hz12 hz15 hz6 hz17 hbr17 hbw17 hk ha5 hm5 hg5
  go_wp2_with fail
  refine (count12_any S17.out).mono ?_
  rintro e wq ⟨rfl, hq⟩
  rw [hq]; clear hq wq
  go_wp2_with fail
  refine HRD.out.mono ?_
  clear HRD
  rintro e w18 ⟨hk, H7, ha7, hm7, h⟩
  rw [if_pos (by have := HQB.out; have := HINN.out; have := HZS.out; omega)] at h
  obtain ⟨⟨a7, c7, rfl, hty7⟩, hsv⟩ := h
  rw [tv_of HZV.out]
  have hsv : SV w5.heap.size w5.heap.size g5 cap5 65536 (q + (ln : Int) + (Tp.size z : Int)) 4 w18 H7 := hsv
  have hg5 := HG5.out; have hgg := HGG.out; have hgf := HGF.out; have hgt := HGT.out; have hz11 := HZ11.out; have hz5 := HZ5.out; have hz14 := HZ14.out; have hz13 := HZ13.out; have hz12 := HZ12.out; have hz15 := HZ15.out; have hz6 := HZ6.out; have hz17 := HZ17.out; have hz18 := hk.size
  have hbr18 := HBR17.out.kp hk (by omega) (by omega) (by omega) (fun j hj => by omega)
  have hbw18 := HBW17.out.kp hk (by omega) (by omega) (by omega) (fun j hj => by omega)
  have HB18 := Lib.hid (HB17.out.trans (hk.below (m := w.heap.size) (by have := HB17.out.size; omega) (fun k h => by omega)))
  have HNF8 := Lib.hid (HNF7.out.keep (w' := w18) (fun bq oo e => by injection e with e; injection e with e1 _ _; subst e1; exact hk.block ga (by omega) (by omega)))
  have HNT8 := Lib.hid (HNT7.out.keep (w' := w18) (fun bq oo e => by injection e with e; injection e with e1 _ _; subst e1; exact hk.block gb (by omega) (by omega)))
  have S18 := Lib.hid hsv; have HAL7 := Lib.hid ha7; have HM7 := Lib.hid hm7; have HTY7 := Lib.hid hty7; have HBR18 := Lib.hid hbr18; have HBW18 := Lib.hid hbw18; have HZ18 := Lib.hid hz18
  clear hk ha7 hm7 hty7 hsv hg5 hgg hgf hgt hz11 hz5 hz14 hz13 hz12 hz15 hz6 hz17 hz18 hbr18 hbw18
  go_upto_region 24 with fail
  obtain ⟨W9, hW9⟩ : ∃ W, w18.alloc (.cells #[.int .i64 zk, .int .i64 zn, .slice a7 zm c7] 26) = W := ⟨_, rfl⟩
  rw [hW9]
  have hb9 : Below w18.heap.size w18 W9 := by rw [← hW9]; exact (Below.refl _ _).alloc (Nat.le_refl _) _
  have hx9 : W9.heap[w18.heap.size]? = some (.cells #[.int .i64 zk, .int .i64 zn, .slice a7 zm c7] 26) := by rw [← hW9]; exact World.alloc_heap_new _ _
  have hz9' : W9.heap.size = w18.heap.size + 1 := by rw [← hW9, World.size_alloc]
  have hbn9 : BoxR W9 w18.heap.size z zk zn zm a7 c7 w17.heap.size w18.heap.size := ⟨hx9, ty_same (fun k hk => hb9.block k hk.2) (fun _ h => h) HTY7.out⟩
  have hg5 := HG5.out; have hgg := HGG.out; have hgf := HGF.out; have hgt := HGT.out; have hz11 := HZ11.out; have hz5 := HZ5.out; have hz14 := HZ14.out; have hz13 := HZ13.out; have hz12 := HZ12.out; have hz15 := HZ15.out; have hz6 := HZ6.out; have hz17 := HZ17.out; have hz18 := HZ18.out
  have hbr9 := HBR18.out.below hb9 (by omega) (by omega)
  have hbw9 := HBW18.out.below hb9 (by omega) (by omega)
  have HB19 := Lib.hid (HB18.out.trans (hb9.mono (by omega)))
  have HNF9 := Lib.hid (HNF8.out.keep (w' := W9) (fun bq oo e => by injection e with e; injection e with e1 _ _; subst e1; exact hb9.block ga (by omega)))
  have HNT9 := Lib.hid (HNT8.out.keep (w' := W9) (fun bq oo e => by injection e with e; injection e with e1 _ _; subst e1; exact hb9.block gb (by omega)))
  have hl7 : H7.length = H6.length := HAL7.out.len.symm
  have hrd := read12_any (S18.out.below hb9) HM7.out ⟨by decide, by decide⟩ (⟨by have := HQB.out; omega, by have := HQB.out; have := HINN.out; have := HZS.out; omega, by decide, by rw [hl7]; have := HBD6.out.n; omega⟩ : Bds 65536 (q + (ln : Int) + (Tp.size z : Int)) H7) (HD1.out.alk HAL7.out) (by have := HUS.out; omega) (Alk.kinds HAL7.out HKI6.out)
  have S19 := Lib.hid (S18.out.below hb9); have HRD := Lib.hid hrd; have HBN9 := Lib.hid hbn9; have HBR9 := Lib.hid hbr9; have HBW9 := Lib.hid hbw9; have HZ9' := Lib.hid hz9'; have HW9 := Lib.hid hW9
  clear hW9 hb9 hx9 hz9' hbn9 hg5 hgg hgf hgt hz11 hz5 hz14 hz13 hz12 hz15 hz6 hz17 hz18 hbr9 hbw9 hl7 hrd
  go_wp2_with fail
  refine HRD.out.mono ?_
  clear HRD
  rintro e w20 ⟨hk, H8, ha8, hm8, h⟩
  rw [if_pos (by have := HQB.out; have := HINN.out; have := HZS.out; have := HUS.out; omega)] at h
  obtain ⟨⟨a8, c8, rfl, hty8⟩, hsv⟩ := h
  rw [tv_of HUV.out]
  have hsv : SV w5.heap.size w5.heap.size g5 cap5 65536 (q + (ln : Int) + (Tp.size z : Int) + (Tp.size u : Int)) 5 w20 H8 := hsv
  have hg5 := HG5.out; have hgg := HGG.out; have hgf := HGF.out; have hgt := HGT.out; have hz11 := HZ11.out; have hz5 := HZ5.out; have hz14 := HZ14.out; have hz13 := HZ13.out; have hz12 := HZ12.out; have hz15 := HZ15.out; have hz6 := HZ6.out; have hz17 := HZ17.out; have hz18 := HZ18.out; have hz9 := HZ9'.out; have hz20 := hk.size
  have hbr20 := HBR9.out.kp hk (by omega) (by omega) (by omega) (fun j hj => by omega)
  have hbw20 := HBW9.out.kp hk (by omega) (by omega) (by omega) (fun j hj => by omega)
  have hbn20 := HBN9.out.kp hk (by omega) (by omega) (by omega) (fun j hj => by omega)
  have HB20 := Lib.hid (HB19.out.trans (hk.below (m := w.heap.size) (by have := HB19.out.size; omega) (fun k h => by omega)))
  have HNF10 := Lib.hid (HNF9.out.keep (w' := w20) (fun bq oo e => by injection e with e; injection e with e1 _ _; subst e1; exact hk.block ga (by omega) (by omega)))
  have HNT10 := Lib.hid (HNT9.out.keep (w' := w20) (fun bq oo e => by injection e with e; injection e with e1 _ _; subst e1; exact hk.block gb (by omega) (by omega)))
  have S20 := Lib.hid hsv; have HAL8 := Lib.hid ha8; have HTY8 := Lib.hid hty8; have HBR20 := Lib.hid hbr20; have HBW20 := Lib.hid hbw20; have HBN20 := Lib.hid hbn20; have HZ20 := Lib.hid hz20
  clear hk ha8 hm8 hty8 hsv hg5 hgg hgf hgt hz11 hz5 hz14 hz13 hz12 hz15 hz6 hz17 hz18 hz9 hz20 hbr20 hbw20 hbn20
  go_upto_region 25 with fail
  obtain ⟨W10, hW10⟩ : ∃ W, w20.alloc (.cells #[.int .i64 uk, .int .i64 un, .slice a8 um c8] 26) = W := ⟨_, rfl⟩
  rw [hW10]
  have hb10 : Below w20.heap.size w20 W10 := by rw [← hW10]; exact (Below.refl _ _).alloc (Nat.le_refl _) _
  have hx10 : W10.heap[w20.heap.size]? = some (.cells #[.int .i64 uk, .int .i64 un, .slice a8 um c8] 26) := by rw [← hW10]; exact World.alloc_heap_new _ _
  have hz10 : W10.heap.size = w20.heap.size + 1 := by rw [← hW10, World.size_alloc]
  have hbx10 : BoxR W10 w20.heap.size u uk un um a8 c8 W9.heap.size w20.heap.size := ⟨hx10, ty_same (fun k hk => hb10.block k hk.2) (fun _ h => h) HTY8.out⟩
  have hg5 := HG5.out; have hgg := HGG.out; have hgf := HGF.out; have hgt := HGT.out; have hz11 := HZ11.out; have hz5 := HZ5.out; have hz14 := HZ14.out; have hz13 := HZ13.out; have hz12 := HZ12.out; have hz15 := HZ15.out; have hz6 := HZ6.out; have hz17 := HZ17.out; have hz18 := HZ18.out; have hz9 := HZ9'.out; have hz20 := HZ20.out
  have hbr10 := HBR20.out.below hb10 (by omega) (by omega)
  have hbw10 := HBW20.out.below hb10 (by omega) (by omega)
  have hbn10 := HBN20.out.below hb10 (by omega) (by omega)
  have HB21 := Lib.hid (HB20.out.trans (hb10.mono (by omega)))
  have HNF11 := Lib.hid (HNF10.out.keep (w' := W10) (fun bq oo e => by injection e with e; injection e with e1 _ _; subst e1; exact hb10.block ga (by omega)))
  have HNT11 := Lib.hid (HNT10.out.keep (w' := W10) (fun bq oo e => by injection e with e; injection e with e1 _ _; subst e1; exact hb10.block gb (by omega)))
  have hks := ks_any HZV.out HZV.out (hbw10.lt (by omega)) (hbn10.lt (by omega))
  rw [Tp.same_refl] at hks
  obtain ⟨c0, c1, c2⟩ := hbw10.cells
  obtain ⟨d0, d1, d2⟩ := hbn10.cells
  have S21 := Lib.hid (S20.out.below hb10); have HKS := Lib.hid hks; have HBX10 := Lib.hid hbx10; have HBR10 := Lib.hid hbr10; have HBW10 := Lib.hid hbw10; have HZ10 := Lib.hid hz10; have HW10 := Lib.hid hW10
  clear hW10 hb10 hx10 hbx10 hg5 hgg hgf hgt hz11 hz5 hz14 hz13 hz12 hz15 hz6 hz17 hz18 hz9 hz20 hbr10 hbw10 hbn10 hks hz10
  go_upto_region 27 with (go_at_call 28; refine HKS.out.mono ?_; clear c0 c1 c2 d0 d1 d2; rintro e w21 ⟨rfl, hb⟩; have HK21 := Lib.hid (Kp.of_below (M := fun j => j = w5.heap.size ∨ j = g5) hb); have S22 := Lib.hid (S21.out.below hb); clear hb)
  have him8 : Im H8 M1 t p := HIM6.out.carry ((Car.of_alk HAL7.out).trans (Car.of_alk HAL8.out))
  obtain ⟨d, hd, hdu⟩ : ∃ d : SNd, H8[p]? = some d ∧ d.up = p := by
    cases t with
    | mk kk nn l => obtain ⟨d, h1, h2, _⟩ := him8; exact ⟨d, h1, h2⟩
  have hrt := root12_any S22.out hd
  rw [hdu] at hrt
  have hsm : ∀ W, Kp W10.heap.size (fun j => j = w5.heap.size ∨ j = g5) W10 W → BoxR W w.heap.size t k0 n0 m0 a cap 0 w.heap.size ∧ w.heap.size < W.heap.size := fun W hk => by
    have hz5 := HZ5.out; have hz11 := HZ11.out; have hz14 := HZ14.out; have hz13 := HZ13.out; have hz12 := HZ12.out; have hz15 := HZ15.out; have hz6 := HZ6.out; have hz17 := HZ17.out; have hz18 := HZ18.out; have hz9 := HZ9'.out; have hz20 := HZ20.out; have hz10 := HZ10.out; have hg5 := HG5.out
    exact ⟨HBR10.out.kp hk (by omega) (by omega) (by omega) (fun j hj => by omega), by have := hk.size; omega⟩
  have hic := fun W (hk : Kp W10.heap.size (fun j => j = w5.heap.size ∨ j = g5) W10 W) => inner_any (Tp.size t) t a cap W (Nat.le_refl _) (by have := HSZ.out; omega) ((hsm W hk).1.lt (Nat.le_of_lt (hsm W hk).2))
  simp only [tv_of HV.out] at hic
  have hgi : decide (inner t < ln) = false := by have := HLL.out; simp; omega
  have HRT := Lib.hid hrt; have HIC := Lib.hid hic; have HSM := Lib.hid hsm
  clear hrt hic hsm him8 hd hdu
  obtain ⟨wk0, hwk⟩ : ∃ x : World, x = wc := ⟨_, rfl⟩
  subst hwk
  go_cut [168] from 149 to 169 (fun v wx => v = .bool false ∧ Kp W10.heap.size (fun j => j = w5.heap.size ∨ j = g5) W10 wx)
  case first =>
    by_cases hk0 : k = 0
    · have hfo : fs = [o] := by rw [← HFS.out, hk0]; rfl
      obtain ⟨e1, e2⟩ := HONE.out o hfo HMO.out
      have hln0 : ln = 0 := by rw [← HLN.out, e1]; rfl
      have hcn0 : cn = p := by rw [← HCN.out, e2]
      have hA : (((k + 1 : Nat) : Int) == 1) = true := by rw [hk0]; rfl
      have hA2 : (((k : Nat) : Int) + 1 == 1) = true := by rw [hk0]; rfl
      have hB : ((ln : Int) != 0) = false := by rw [hln0]; rfl
      have hC : ((cn : Int) != (p : Int)) = false := by rw [hcn0]; simp
      clear hfo e1 e2 hk0 hln0 hcn0
      go_wp2_with fail
      refine HRT.out.mono ?_
      rintro e w23 ⟨rfl, hsv, hk⟩
      have HK23 := Lib.hid (HK21.out.trans (hk.mono HK21.out.size (fun _ _ h => .inr h)))
      clear hsv hk
      obtain ⟨c0, c1, c2⟩ := (HSM.out w23 HK23.out).1.cells
      go_wp2_with (go_at_call 30; refine (HIC.out w23 HK23.out).mono ?_; clear c0 c1 c2; rintro e w24 ⟨rfl, hb⟩; have HK24 := Lib.hid (HK23.out.trans ((Kp.of_below hb).mono HK23.out.size (fun _ _ h => h))); clear hb)
      go_meet
      case rel => exact ⟨rfl, HK24.out⟩
    · have hA : (((k + 1 : Nat) : Int) == 1) = false := by simp; omega
      have hA2 : (((k : Nat) : Int) + 1 == 1) = false := by simp; omega
      clear hk0
      obtain ⟨c0, c1, c2⟩ := (HSM.out w21 HK21.out).1.cells
      go_wp2_with (go_at_call 30; refine (HIC.out w21 HK21.out).mono ?_; clear c0 c1 c2; rintro e w24 ⟨rfl, hb⟩; have HK24 := Lib.hid (HK21.out.trans ((Kp.of_below hb).mono HK21.out.size (fun _ _ h => h))); clear hb)
      go_meet
      case rel => exact ⟨rfl, HK24.out⟩
  case rest =>
  obtain ⟨rfl, hk⟩ := hcut
  have hz5 := HZ5.out; have hz11 := HZ11.out; have hz14 := HZ14.out; have hz13 := HZ13.out; have hz12 := HZ12.out; have hz15 := HZ15.out; have hz6 := HZ6.out; have hz17 := HZ17.out; have hz18 := HZ18.out; have hz9 := HZ9'.out; have hz20 := HZ20.out; have hz10 := HZ10.out; have hg5 := HG5.out; have hgf := HGF.out; have hgt := HGT.out; have hgg := HGG.out; have hzc := hk.size
  have hbw := HBW10.out.kp hk (by omega) (by omega) (by omega) (fun j hj => by omega)
  have hbx := HBX10.out.kp hk (by omega) (by omega) (by omega) (fun j hj => by omega)
  have hnf := HNF11.out.keep (w' := wc) (fun bq oo e => by injection e with e; injection e with e1 _ _; subst e1; exact hk.block ga (by omega) (by omega))
  have hnt := HNT11.out.keep (w' := wc) (fun bq oo e => by injection e with e; injection e with e1 _ _; subst e1; exact hk.block gb (by omega) (by omega))
  have hbz := HB21.out.trans (hk.below (m := w.heap.size) (by have := HB21.out.size; omega) (fun k h => by omega))
  have hd0 := (Below.refl wc.heap.size wc).drew
  have hput := fun W (hb : Below wc.heap.size wc.drew W) => put_any fs ts' (some ⟨ga, 0, none⟩) (some ⟨gb, 0, none⟩) capa capb w14.heap.size (HLF.out.trans HLT.out.symm) (by rw [HLF.out]; have := HK10.out; omega) HT5'.out (fun b o e => by injection e with e; injection e with e1 _ _; subst e1; exact HGF.out.2.1) (fun b o e => by injection e with e; injection e with e1 _ _; subst e1; exact HGT.out.2.1) (Tp.size z) z a4 c4 W (Nat.le_refl _) (by have := HZS.out; omega) ((hbw.below (hd0.trans hb) (by omega) (by omega)).lt (by have := hb.size; have : wc.heap.size ≤ W.heap.size := this; omega)) (hnf.keep (fun bq oo e => by injection e with e; injection e with e1 _ _; subst e1; exact (hd0.trans hb).block ga (by omega))) (hnt.keep (fun bq oo e => by injection e with e; injection e with e1 _ _; subst e1; exact (hd0.trans hb).block gb (by omega))) (by have := hb.size; have : wc.heap.size ≤ W.heap.size := this; omega)
  rw [HUE.out, HLF.out, HLT.out] at hput
  simp only [tv_of HZV.out] at hput
  have hsm2 := fun W (hb : Below wc.heap.size wc.drew W) (a9 : Option Addr) (c9 : Nat) (ht : TyAt (LT W.heap.size) W u a9 c9) => ks_any HUV.out HUV.out ((hbx.below (hd0.trans hb) (by omega) (by omega)).lt (by have := hb.size; have : wc.heap.size ≤ W.heap.size := this; omega)) ht
  rw [Tp.same_refl] at hsm2
  have hcell := fun W (hb : Below wc.heap.size wc.drew W) => And.intro (hbw.below (hd0.trans hb) (by omega) (by omega)).cells (hbx.below (hd0.trans hb) (by omega) (by omega)).cells
  have HCELL := Lib.hid hcell; have HPUT := Lib.hid hput; have HSM2 := Lib.hid hsm2; have HBZ := Lib.hid (show Below w.heap.size w wc.drew from hbz.drew); have HZC := Lib.hid (show w.heap.size ≤ wc.heap.size by omega)
  have HBd := Lib.hid (Below.refl wc.heap.size wc.drew); have HLE := Lib.hid (fun q (h : Below wc.heap.size wc.drew q) => (show wc.heap.size ≤ q.heap.size from h.size))
  clear hz5 hz11 hz14 hz13 hz12 hz15 hz6 hz17 hz18 hz9 hz20 hz10 hg5 hgf hgt hgg hzc hbw hbx hnf hnt hbz hd0 hput hsm2 hcell hk
  go_upto_region 29 with fail
  obtain ⟨⟨c0, c1, c2⟩, d0, d1, d2⟩ := HCELL.out _ HBd.out
  refine wp_region_seq [(0, false), (0, false), (0, false), (0, false), (0, true), (0, true), (0, false), (0, true), (0, false), (0, false)] (by kernel_rfl) (by kernel_rfl) (by kernel_rfl) (fun _ _ _ d _ h => by cases d <;> exact h) ?_
  repeat
    first
    | (first | with_reducible refine sp0 (fun K hK => ?_) | with_reducible refine sp1 (fun K hK => ?_) | with_reducible refine sp2 (fun K hK => ?_) | with_reducible refine sp3 (fun K hK => ?_) | with_reducible refine sp4 (fun K hK => ?_)
       go_simp
       first
       | (with_reducible refine hK _ _ ?_; clear hK K)
       | (with_reducible apply Exists.intro
          refine ⟨fun x hx => ?_, hK _ _ ?_⟩
          first
            | (with_reducible exact rfl)
            | (have y0 := keepc hx c0; have y1 := keepc hx c1; have y2 := keepc hx c2; have y3 := keepc hx d0; have y4 := keepc hx d1; have y5 := keepc hx d2; go_simp; done)
            | (have y0 := keepc hx c0; have y1 := keepc hx c1; have y2 := keepc hx c2; have y3 := keepc hx d0; have y4 := keepc hx d1; have y5 := keepc hx d2; go_simp; with_reducible exact rfl)
          clear hK K))
    | (first | with_reducible refine sk0 ?_ (fun K hK => ?_) | with_reducible refine sk1 ?_ (fun K hK => ?_) | with_reducible refine sk2 ?_ (fun K hK => ?_) | with_reducible refine sk3 ?_ (fun K hK => ?_) | with_reducible refine sk4 ?_ (fun K hK => ?_)
       rfl
       go_simp
       with_reducible refine hK _ _ ?_
       clear hK K)
  first | with_reducible refine sc0 (fun K hK => ?_) | with_reducible refine sc1 (fun K hK => ?_) | with_reducible refine sc2 (fun K hK => ?_) | with_reducible refine sc3 (fun K hK => ?_) | with_reducible refine sc4 (fun K hK => ?_)
  go_simp
  refine (HPUT.out _ HBd.out).mono ?_
  clear c0 c1 c2 d0 d1 d2
  rintro e v1 ⟨a9, c9, rfl, hty9, hb⟩
  refine ⟨hb, hK _ _ ?_⟩
  clear hK K
  have HC1' := Lib.hid (HBd.out.trans (hb.mono (HLE.out _ HBd.out))); have HT9 := Lib.hid (show TyAt (LT v1.heap.size) v1 u a9 c9 from ty_same (fun _ _ => rfl) (fun _ h => h.2) hty9)
  rw [tv_of HUV.out]
  clear hb hty9
  obtain ⟨⟨c0, c1, c2⟩, d0, d1, d2⟩ := HCELL.out _ HC1'.out
  repeat
    first
    | (first | with_reducible refine sp0 (fun K hK => ?_) | with_reducible refine sp1 (fun K hK => ?_) | with_reducible refine sp2 (fun K hK => ?_) | with_reducible refine sp3 (fun K hK => ?_) | with_reducible refine sp4 (fun K hK => ?_)
       go_simp
       first
       | (with_reducible refine hK _ _ ?_; clear hK K)
       | (with_reducible apply Exists.intro
          refine ⟨fun x hx => ?_, hK _ _ ?_⟩
          first
            | (with_reducible exact rfl)
            | (have y0 := keepc hx c0; have y1 := keepc hx c1; have y2 := keepc hx c2; have y3 := keepc hx d0; have y4 := keepc hx d1; have y5 := keepc hx d2; go_simp; done)
            | (have y0 := keepc hx c0; have y1 := keepc hx c1; have y2 := keepc hx c2; have y3 := keepc hx d0; have y4 := keepc hx d1; have y5 := keepc hx d2; go_simp; with_reducible exact rfl)
          clear hK K))
    | (first | with_reducible refine sk0 ?_ (fun K hK => ?_) | with_reducible refine sk1 ?_ (fun K hK => ?_) | with_reducible refine sk2 ?_ (fun K hK => ?_) | with_reducible refine sk3 ?_ (fun K hK => ?_) | with_reducible refine sk4 ?_ (fun K hK => ?_)
       rfl
       go_simp
       with_reducible refine hK _ _ ?_
       clear hK K)
  first | with_reducible refine sc0 (fun K hK => ?_) | with_reducible refine sc1 (fun K hK => ?_) | with_reducible refine sc2 (fun K hK => ?_) | with_reducible refine sc3 (fun K hK => ?_) | with_reducible refine sc4 (fun K hK => ?_)
  go_simp
  refine (HSM2.out _ HC1'.out a9 c9 HT9.out).mono ?_
  clear c0 c1 c2 d0 d1 d2
  rintro e v2 ⟨rfl, hb9⟩
  refine ⟨hb9, hK _ _ ?_⟩
  clear hK K
  have HC2 := Lib.hid (HC1'.out.trans (hb9.mono (HLE.out _ HC1'.out)))
  clear hb9
  obtain ⟨⟨c0, c1, c2⟩, d0, d1, d2⟩ := HCELL.out v2 HC2.out
  repeat
    first
    | (first | with_reducible refine sp0 (fun K hK => ?_) | with_reducible refine sp1 (fun K hK => ?_) | with_reducible refine sp2 (fun K hK => ?_) | with_reducible refine sp3 (fun K hK => ?_) | with_reducible refine sp4 (fun K hK => ?_)
       go_simp
       first
       | (with_reducible refine hK _ _ ?_; clear hK K)
       | (with_reducible apply Exists.intro
          refine ⟨fun x hx => ?_, hK _ _ ?_⟩
          first
            | (with_reducible exact rfl)
            | (have y0 := keepc hx c0; have y1 := keepc hx c1; have y2 := keepc hx c2; have y3 := keepc hx d0; have y4 := keepc hx d1; have y5 := keepc hx d2; go_simp; done)
            | (have y0 := keepc hx c0; have y1 := keepc hx c1; have y2 := keepc hx c2; have y3 := keepc hx d0; have y4 := keepc hx d1; have y5 := keepc hx d2; go_simp; with_reducible exact rfl)
          clear hK K))
    | (first | with_reducible refine sk0 ?_ (fun K hK => ?_) | with_reducible refine sk1 ?_ (fun K hK => ?_) | with_reducible refine sk2 ?_ (fun K hK => ?_) | with_reducible refine sk3 ?_ (fun K hK => ?_) | with_reducible refine sk4 ?_ (fun K hK => ?_)
       rfl
       go_simp
       with_reducible refine hK _ _ ?_
       clear hK K)
  first | with_reducible refine sc0 (fun K hK => ?_) | with_reducible refine sc1 (fun K hK => ?_) | with_reducible refine sc2 (fun K hK => ?_) | with_reducible refine sc3 (fun K hK => ?_) | with_reducible refine sc4 (fun K hK => ?_)
  go_simp
  refine (wakes12_any _).mono ?_
  clear c0 c1 c2 d0 d1 d2
  rintro e v3 ⟨rfl, hb9⟩
  refine ⟨hb9, hK _ _ ?_⟩
  clear hK K
  have HC3 := Lib.hid (HC2.out.trans (hb9.mono (HLE.out _ HC2.out)))
  clear hb9
  obtain ⟨⟨c0, c1, c2⟩, d0, d1, d2⟩ := HCELL.out v3 HC3.out
  repeat
    first
    | (first | with_reducible refine sp0 (fun K hK => ?_) | with_reducible refine sp1 (fun K hK => ?_) | with_reducible refine sp2 (fun K hK => ?_) | with_reducible refine sp3 (fun K hK => ?_) | with_reducible refine sp4 (fun K hK => ?_)
       go_simp
       first
       | (with_reducible refine hK _ _ ?_; clear hK K)
       | (with_reducible apply Exists.intro
          refine ⟨fun x hx => ?_, hK _ _ ?_⟩
          first
            | (with_reducible exact rfl)
            | (have y0 := keepc hx c0; have y1 := keepc hx c1; have y2 := keepc hx c2; have y3 := keepc hx d0; have y4 := keepc hx d1; have y5 := keepc hx d2; go_simp; done)
            | (have y0 := keepc hx c0; have y1 := keepc hx c1; have y2 := keepc hx c2; have y3 := keepc hx d0; have y4 := keepc hx d1; have y5 := keepc hx d2; go_simp; with_reducible exact rfl)
          clear hK K))
    | (first | with_reducible refine sk0 ?_ (fun K hK => ?_) | with_reducible refine sk1 ?_ (fun K hK => ?_) | with_reducible refine sk2 ?_ (fun K hK => ?_) | with_reducible refine sk3 ?_ (fun K hK => ?_) | with_reducible refine sk4 ?_ (fun K hK => ?_)
       rfl
       go_simp
       with_reducible refine hK _ _ ?_
       clear hK K)
  with_reducible refine seq_nil ?_
  clear c0 c1 c2 d0 d1 d2
  go_wp2_with fail
  go_ret
  exact ⟨rfl, HBZ.out.trans (HC3.out.mono HZC.out)⟩
end Go.Proofs.Yteolbbgnkbcfmaa

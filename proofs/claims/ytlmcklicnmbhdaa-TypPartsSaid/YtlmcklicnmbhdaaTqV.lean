/- The law TypVars. -/
import Derived.Test.YtlmcklicnmbhdaaTqB
import Derived.Test.YtlmcklicnmbhdaaTqP
import Derived.Deep.QuietTactic
namespace Go.Proofs.Ytlmcklicnmbhdaa
open Go Go.RowKit
open Tp (T)

theorem elem_int : Try.prog.underlying 34 = some (.slice (Try.prog.elem 34)) := by kernel_rfl
theorem size_int (w : World) : (sizeOf (Try.prog.elem 34)).run Try.prog w = .ok 1 w := by kernel_rfl
theorem int_take (a : Option Addr) (n cap k : Nat) (hc : k ≤ cap) (w' : World) : (Instr.slice 34 (.slice a n cap) none (some (.int .i64 k)) none).run Try.prog w' = .ok (.slice a k cap) w' := by
  have h := run_slice_h w' 34 a n cap elem_int .i64 k (by omega) (by omega)
  rw [h, size_int]
  cases a <;> simp [Result.andThen, sliced, Addr.add]
theorem wp_region_quiet_c {P : Program} {C : World → Prop} {id : Nat} {Q : Exit → Act → World → Prop} {a : Act} {w : World} {l : List Oper} (hm : P.follows .mixedOrders = true) (hB : Region.lexB .any l.toArray = true) (hC : C { w with drawn := w.drawn + 1 })
    (h : wpQuiet P l.toArray C (fun a' => ∀ w', C w' → Q .normal a' w') l a) : (Code.region id l.toArray true).wp P Q a w :=
  wp_region_quiet (C := C) hm hB hC (by simpa using h)
theorem quiet_of {P : Program} {f : FuncId} {args : Array Value} {w W : World} {v : Value} {C : World → Prop} (hC : ∀ w', C w' ↔ Below W.heap.size W w') (hb : C w) (h : Calls P f args w (fun e w' => e = .returned v ∧ Below w.heap.size w w')) :
    Calls P f args w (fun e w' => e = .returned v ∧ C w') :=
  h.mono fun _ w' ⟨h1, h2⟩ => ⟨h1, (hC w').2 (((hC w).1 hb).trans (h2.mono ((hC w).1 hb).size))⟩
theorem row_drewN {w : World} {a : Option Addr} {L : List Int} (h : IntRow w a L) (n : Nat) : IntRow (w.drewN n) a L := h.below (below_drewN (Below.refl w.heap.size w) n) (Nat.le_refl _)
theorem take_len {L : List Int} {l0 k : Nat} (hl : L.length = l0) (h : k < l0) : (L.take k).length = k := by rw [List.length_take]; omega
theorem len_le {t : T} {L : List Int} {l0 : Nat} (h : Tp.size t ≤ 600) (hL : Tp.vars t [] = L) (hl : L.length = l0) : l0 ≤ 600 := by
  have := vlen_le t []
  rw [hL, hl] at this
  simp at this
  omega
theorem wrap_next {n : Nat} (h : n ≤ 600) : wrap64 ((n : Int) + 1) = (n : Int) + 1 := by unfold wrap64; omega
theorem wrap_next2 {n : Nat} (h : n ≤ 600) : IntKind.i64.wrap ((n : Int) + 1) = (n : Int) + 1 := by
  simp [IntKind.wrap, IntKind.bits, IntKind.signed]
  omega
theorem rem_i64 {r : Int} (h1 : 0 ≤ r) (h2 : r < 1000) : I64 r := by unfold I64; omega
theorem sz_le {t : T} (h : Tp.size t ≤ 600) : Tp.size t ≤ 10000 := by omega
/-- Two boxes: the class of the worlds in which they lie as they lay. -/
theorem cells3 {w w' : World} {b : Nat} {x y v : Value} {s : TypeId} (h : w.heap[b]? = some (.cells #[x, y, v] s)) (hb : Below w.heap.size w w') : w'.cell? ⟨b, 0, none⟩ = some x ∧ w'.cell? ⟨b, 1, none⟩ = some y ∧ w'.cell? ⟨b, 2, none⟩ = some v := by
  have hlt := (Array.getElem?_eq_some_iff.1 h).1
  exact ⟨cell_box h (hb.block _ hlt) rfl, cell_box h (hb.block _ hlt) rfl, cell_box h (hb.block _ hlt) rfl⟩

set_option maxRecDepth 100000 in
set_option maxHeartbeats 4000000 in
theorem lvars_any (t : T) (a : Option Addr) (cap : Nat) (n : Int) (w : World) (_hn : I64 n) (hty : TyAt (LT w.heap.size) w t a cap) :
    Calls Try.prog 6 #[tv t a cap, .int .i64 n] w fun e w' => e = .returned (.bool true) ∧ Below w.heap.size w w' := by
  clear _hn
  obtain ⟨k0, hk0⟩ : ∃ k0, t.kind = k0 := ⟨_, rfl⟩
  obtain ⟨n0, hn0⟩ : ∃ n0, t.num = n0 := ⟨_, rfl⟩
  obtain ⟨m0, hm0⟩ : ∃ m0, t.kids.length = m0 := ⟨_, rfl⟩
  obtain ⟨hv, hhv⟩ : ∃ hv, decide (600 < Tp.sizes [t]) = hv := ⟨_, rfl⟩
  obtain ⟨L, hL⟩ : ∃ L, Tp.vars t [] = L := ⟨_, rfl⟩
  obtain ⟨l0, hl0⟩ : ∃ l0, L.length = l0 := ⟨_, rfl⟩
  obtain ⟨hcell, htw, hle, hbw⟩ := box_facts hty (k := k0) (n := n0) (m := m0)
  have hhe := fun w1 (hb : Below (w.heap.size + 1) (w.alloc (.cells #[.int .i64 k0, .int .i64 n0, .slice a m0 cap] 24)) w1) => heavy_any [t] (some ⟨w1.heap.size, 0, none⟩) 1 _ (by simp) (row_one (htw w1 hb) hk0 hn0 hm0)
  have hva := fun w1 (hb : Below (w.heap.size + 1) (w.alloc (.cells #[.int .i64 k0, .int .i64 n0, .slice a m0 cap] 24)) w1) (h600 : Tp.size t ≤ 600) => vars_any t a cap w1 (sz_le h600) (htw w1 hb)
  have hpu := fun r hr w1 (hb : Below (w.heap.size + 1) (w.alloc (.cells #[.int .i64 k0, .int .i64 n0, .slice a m0 cap] 24)) w1) (h600 : Tp.size t ≤ 600) => put_any r hr (Tp.size t) t a cap w1 (Nat.le_refl _) (sz_le h600) (htw w1 hb)
  unfold tv at hva hpu ⊢
  rw [hhv] at hhe
  rw [hL] at hva
  rw [hk0, hn0, hm0] at hva ⊢
  simp only [hk0, hn0, hm0] at hpu
  have HCELL := Lib.hid hcell; have HTW := Lib.hid htw; have HLE := Lib.hid hle; have HBW := Lib.hid hbw; have HHE := Lib.hid hhe; have HVA := Lib.hid hva; have HPU := Lib.hid hpu
  have HK0 := Lib.hid hk0; have HN0 := Lib.hid hn0; have HM0 := Lib.hid hm0; have HHV := Lib.hid hhv; have HL := Lib.hid hL; have HL0 := Lib.hid hl0
  have HB0 := Lib.hid (Below.refl (w.heap.size + 1) (w.alloc (.cells #[.int .i64 k0, .int .i64 n0, .slice a m0 cap] 24)))
  clear hk0 hn0 hm0 hcell htw hle hbw hhe hva hpu hhv hL hl0 hty
  go_enter Try.func6, Try.ntmps6
  go_wp2_with fail
  have hh := HHE.out _ HB0.out
  rw [World.size_alloc] at hh
  refine hh.mono ?_
  clear hh
  rintro e w1 ⟨rfl, hb1⟩
  have b1 := (HB0.out.alloc (by simp) _).trans (hb1.mono (by simp))
  obtain ⟨c0, c1, c2⟩ := HCELL.out w1 b1
  have HB1 := Lib.hid b1
  clear b1 hb1
  cases hv
  case true =>
    go_wp2_with fail
    go_ret
    exact ⟨rfl, HBW.out _ HB1.out⟩
  have h600 : Tp.size t ≤ 600 := by have := HHV.out; rw [sizes_one] at this; simpa using this
  have H600 := Lib.hid h600
  have hl600 : l0 ≤ 600 := len_le h600 HL.out HL0.out
  have HL6 := Lib.hid hl600
  clear h600
  go_wp2_with fail
  refine (HVA.out _ HB1.out H600.out).mono ?_
  clear c0 c1 c2
  rintro e w2 ⟨v2, rfl, own2, hb2⟩
  rw [HL0.out] at own2
  obtain ⟨a2, cr, rfl⟩ := own_shape' own2
  have hr2 := (IntRow.of_own (own_len own2 HL0.out.symm)).2
  have hcr := le_of_own own2
  have b2 := HB1.out.trans (hb2.mono (HLE.out _ HB1.out))
  have HR2 := Lib.hid hr2
  have HB2 := Lib.hid b2
  clear b2 hb2 own2 hr2
  go_wp2_with fail
  go_loopg [6] l0 (fun gk i wr => ∃ k : Nat, k ≤ l0 ∧ i = .int .i64 k ∧ Below (w.heap.size + 1) (w.alloc (.cells #[.int .i64 k0, .int .i64 n0, .slice a m0 cap] 24)) wr ∧ Below w2.heap.size w2 wr ∧ gk = l0 - k)
  case atStart => exact ⟨0, Nat.zero_le _, rfl, HB2.out, Below.refl _ _, rfl⟩
  case round =>
    obtain ⟨k, hk, rfl, hbr, hb2r, rfl⟩ := hrel
    have HBR := Lib.hid hbr
    have HB2R := Lib.hid hb2r
    clear hbr hb2r
    by_cases hlt : k < l0
    · have hkl : k < L.length := by rw [HL0.out]; exact hlt
      have hrr := HR2.out.below HB2R.out (Nat.le_refl _)
      have hin := fun nq => in_any (L.take k) a2 cr L[k] (wr.drewN nq) (by rw [take_len HL0.out hlt]; omega) ((row_drewN hrr nq).take k)
      rw [take_len HL0.out hlt] at hin
      rw [decide_eq_false (by have := vars_fresh t [] Fresh.nil k (by rw [HL.out]; exact hkl); simpa only [HL.out] using this)] at hin
      obtain ⟨b, o, rfl, hbl, hN⟩ := hrr.resolve_left (fun e => by rw [e] at hkl; simp at hkl)
      have cx := hN k hkl
      obtain ⟨x, hx⟩ : ∃ x, L[k] = x := ⟨_, rfl⟩
      rw [hx] at cx hin
      have HIN := Lib.hid hin
      have htk := int_take (some ⟨b, o, none⟩) l0 cr k (by omega)
      clear hx hN hrr hin hkl
      go_wp2_with fail
      go_quiet ((go_at_call 26; exact Calls.quiet_of_same ((HIN.out _).mono fun e w' h => ⟨h.1, h.2.symm⟩)))
      clear htk cx
      go_wp2_with fail
      go_roundg (l0 - (k + 1))
      case measure => omega
      case rel => exact ⟨k + 1, by omega, by go_num, below_drewN HBR.out _, below_drewN HB2R.out _, rfl⟩
    · obtain rfl : k = l0 := by omega
      obtain ⟨c0, c1, c2⟩ := HCELL.out _ HBR.out
      obtain ⟨r, r1, r2, r3, r4, -, -⟩ := rem_small n
      go_wp2_with fail
      refine (HPU.out r (rem_i64 r2 r3) _ HBR.out H600.out).mono ?_
      clear c0 c1 c2
      rintro e w5 ⟨a6, c6, ks, rfl, hks, hrow, hi1, hi2, hb5⟩
      have hty5 := TyPost.ty hks hrow hi1 hi2
      clear hks hrow hi1 hi2
      have b5 := HBR.out.trans (hb5.mono (HLE.out _ HBR.out))
      have hsz6 := put_size r t
      have hst6 := put_static r t
      have hcl6 := put_closed r t
      have hln6 := vars_put_len r t
      rw [HL.out, HL0.out] at hln6
      obtain ⟨u, hu⟩ : ∃ u, putT r t = u := ⟨_, rfl⟩
      rw [hu] at hty5 hsz6 hst6 hcl6 hln6 ⊢
      clear hu
      obtain ⟨k6, hk6⟩ : ∃ k, u.kind = k := ⟨_, rfl⟩
      obtain ⟨n6, hn6⟩ : ∃ k, u.num = k := ⟨_, rfl⟩
      obtain ⟨m6, hm6⟩ : ∃ k, u.kids.length = k := ⟨_, rfl⟩
      unfold tv
      rw [hk6, hn6, hm6]
      have HB5 := Lib.hid b5; have HT5 := Lib.hid hty5; have HSZ6 := Lib.hid hsz6; have HST6 := Lib.hid hst6; have HCL6 := Lib.hid hcl6; have HLN6 := Lib.hid hln6
      have HK6 := Lib.hid hk6; have HN6 := Lib.hid hn6; have HM6 := Lib.hid hm6
      clear b5 hty5 hsz6 hst6 hcl6 hln6 hk6 hn6 hm6 hb5 r1 r2 r3 r4
      go_upto_region 10 with fail
      generalize hwz : w5.alloc (.cells #[.int .i64 k6, .int .i64 n6, .slice a6 m6 c6] 24) = wz
      have hz : wz.heap[w5.heap.size]? = some (.cells #[.int .i64 k6, .int .i64 n6, .slice a6 m6 c6] 24) := by rw [← hwz]; exact World.alloc_heap_new w5 _
      have hb5z : Below w5.heap.size w5 wz := by rw [← hwz]; exact (Below.refl _ _).alloc (Nat.le_refl _) _
      have bz : Below (w.heap.size + 1) (w.alloc (.cells #[.int .i64 k0, .int .i64 n0, .slice a m0 cap] 24)) wz := by rw [← hwz]; exact HB5.out.alloc (HLE.out _ HB5.out) _
      clear hwz
      obtain ⟨C, hC⟩ : ∃ C : World → Prop, ∀ w', C w' ↔ Below wz.heap.size wz w' := ⟨_, fun _ => Iff.rfl⟩
      have hCt : ∀ w', C w' → Below (w.heap.size + 1) (w.alloc (.cells #[.int .i64 k0, .int .i64 n0, .slice a m0 cap] 24)) w' := fun w' h => bz.trans (((hC w').1 h).mono (HLE.out _ bz))
      have hTu : ∀ w', C w' → TyAt (LT w'.heap.size) w' u a6 c6 := fun w' h => HT5.out.below (hb5z.trans (((hC w').1 h).mono hb5z.size)) (fun _ h => h.2) (fun _ h2 => Nat.lt_of_lt_of_le h2.2 (Nat.le_trans hb5z.size ((hC w').1 h).size))
      have hcz := fun w' (h : C w') => cells3 hz ((hC w').1 h)
      have hs6 : Tp.size u ≤ 10000 := by rw [HSZ6.out]; exact sz_le H600.out
      have q1 := fun w' (h : C w') => vars_any u a6 c6 w' hs6 (hTu w' h)
      have q2 := fun w' (h : C w') => quiet_of hC h (closed_any t a cap w' (sz_le H600.out) (HTW.out w' (hCt w' h)))
      have q3 := fun w' (h : C w') => quiet_of hC h (static_any u a6 c6 w' hs6 (hTu w' h))
      have q4 := fun w' (h : C w') => quiet_of hC h (size_any u a6 c6 w' hs6 (hTu w' h))
      have q5 := fun w' (h : C w') => quiet_of hC h (size_any t a cap w' (sz_le H600.out) (HTW.out w' (hCt w' h)))
      have q6 := fun w' (h : C w') => quiet_of hC h (closed_any u a6 c6 w' hs6 (hTu w' h))
      have q7 := fun w' (h : C w') => quiet_of hC h (static_any t a cap w' (sz_le H600.out) (HTW.out w' (hCt w' h)))
      have q8 := fun w' (h : C w') => quiet_of hC h (wakes_any w')
      rw [HST6.out] at q3
      rw [HSZ6.out] at q4
      rw [HCL6.out] at q6
      have f1 := vars_len t
      rw [HL.out, HL0.out] at f1
      obtain ⟨l1, hl1⟩ : ∃ x, (Tp.vars u []).length = x := ⟨_, rfl⟩
      have hln := HLN6.out
      rw [hl1] at hln
      obtain ⟨s0, hs0⟩ : ∃ x, Tp.size t = x := ⟨_, rfl⟩
      rw [hs0] at q4 q5
      obtain ⟨cl, hcl⟩ : ∃ x, Tp.without 6 t = x := ⟨_, rfl⟩
      obtain ⟨st, hst⟩ : ∃ x, Tp.without 5 t = x := ⟨_, rfl⟩
      rw [hcl] at q2 q6 f1
      rw [hst] at q6 q7
      unfold tv at q1 q2 q3 q4 q5 q6 q7
      rw [HK0.out, HN0.out, HM0.out] at q2 q5 q7
      rw [HK6.out, HN6.out, HM6.out] at q1 q3 q4 q6
      have HQ1 := Lib.hid q1; have HQ2 := Lib.hid q2; have HQ3 := Lib.hid q3; have HQ4 := Lib.hid q4; have HQ5 := Lib.hid q5; have HQ6 := Lib.hid q6; have HQ7 := Lib.hid q7; have HQ8 := Lib.hid q8
      have HCT := Lib.hid hCt; have HCZ := Lib.hid hcz; have HC := Lib.hid hC; have HL1 := Lib.hid hl1
      have hC0 : C wz := (hC wz).2 (Below.refl _ _)
      have HC0 := Lib.hid hC0
      obtain ⟨z0, z1, z2⟩ := hcz wz hC0
      have HWR := Lib.hid (wrap_next2 HL6.out)
      have HLE1 := Lib.hid (show ((k : Int) ≤ (l1 : Int)) ∧ ((l1 : Int) ≤ (k : Int) + 1) from by omega)
      clear q1 q2 q3 q4 q5 q6 q7 q8 hCt hcz hC hl1 hC0 hz hb5z bz hTu hs6 hln hs0 hcl hst
      go_wp2_with fail
      refine (HQ1.out _ HC0.out).mono ?_
      clear z0 z1 z2
      rintro e w6 ⟨v6, rfl, own6, hb6⟩
      rw [HL1.out] at own6
      obtain ⟨a7, c7, rfl⟩ := own_shape' own6
      have HC6 := Lib.hid ((HC.out w6).2 (((HC.out _).1 HC0.out).trans (hb6.mono ((HC.out _).1 HC0.out).size)))
      clear own6 hb6
      go_upto_region 11 with fail
      have hwr := HWR.out
      obtain ⟨hle1, hle2⟩ := HLE1.out
      clear hlt
      cases cl
      · refine wp_region_quiet_c (C := C) (by kernel_rfl) (by kernel_rfl) ((HC.out _).2 ((HC.out _).1 HC6.out).drew) ?_
        repeat
          (refine wpQuiet_step (fun K hK => ?_)
           go_simp
           first
             | (refine hK _ ?_; clear hK K)
             | (apply Exists.intro
                refine ⟨fun wq hq => ?_, hK _ ?_⟩
                first
                  | (with_reducible exact rfl)
                  | (go_at_call 20; with_reducible exact HQ2.out wq hq)
                  | (go_at_call 20; with_reducible exact HQ6.out wq hq)
                  | (go_at_call 18; with_reducible exact HQ3.out wq hq)
                  | (go_at_call 18; with_reducible exact HQ7.out wq hq)
                  | (go_at_call 14; with_reducible exact HQ4.out wq hq)
                  | (go_at_call 14; with_reducible exact HQ5.out wq hq)
                  | (go_at_call 25; with_reducible exact HQ8.out wq hq)
                  | (obtain ⟨c0, c1, c2⟩ := HCELL.out wq (HCT.out wq hq)
                     obtain ⟨z0, z1, z2⟩ := HCZ.out wq hq
                     go_simp
                     done)
                  | (obtain ⟨c0, c1, c2⟩ := HCELL.out wq (HCT.out wq hq)
                     obtain ⟨z0, z1, z2⟩ := HCZ.out wq hq
                     go_simp
                     with_reducible exact rfl)
                clear hK K))
        refine wpQuiet_nil ?_
        intro wq hq
        go_wp2_with fail
        go_ret
        exact ⟨rfl, HBW.out _ (HCT.out wq hq)⟩
      · refine wp_region_quiet_c (C := C) (by kernel_rfl) (by kernel_rfl) ((HC.out _).2 ((HC.out _).1 HC6.out).drew) ?_
        repeat
          (refine wpQuiet_step (fun K hK => ?_)
           go_simp
           first
             | (refine hK _ ?_; clear hK K)
             | (apply Exists.intro
                refine ⟨fun wq hq => ?_, hK _ ?_⟩
                first
                  | (with_reducible exact rfl)
                  | (go_at_call 20; with_reducible exact HQ2.out wq hq)
                  | (go_at_call 20; with_reducible exact HQ6.out wq hq)
                  | (go_at_call 18; with_reducible exact HQ3.out wq hq)
                  | (go_at_call 18; with_reducible exact HQ7.out wq hq)
                  | (go_at_call 14; with_reducible exact HQ4.out wq hq)
                  | (go_at_call 14; with_reducible exact HQ5.out wq hq)
                  | (go_at_call 25; with_reducible exact HQ8.out wq hq)
                  | (obtain ⟨c0, c1, c2⟩ := HCELL.out wq (HCT.out wq hq)
                     obtain ⟨z0, z1, z2⟩ := HCZ.out wq hq
                     go_simp
                     done)
                  | (obtain ⟨c0, c1, c2⟩ := HCELL.out wq (HCT.out wq hq)
                     obtain ⟨z0, z1, z2⟩ := HCZ.out wq hq
                     go_simp
                     with_reducible exact rfl)
                clear hK K))
        refine wpQuiet_nil ?_
        intro wq hq
        go_wp2_with fail
        go_ret
        exact ⟨rfl, HBW.out _ (HCT.out wq hq)⟩
end Go.Proofs.Ytlmcklicnmbhdaa

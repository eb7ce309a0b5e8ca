/- typ.nodes' closure, walked. -/
import Derived.Test.YtaaapdfdedknfaaTyN
namespace Go.Proofs.Ytaaapdfdedknfaa
open Go Go.RowKit Go.Shelf
open Tp (T)

attribute [local go_sem] Oper.semAt_some

set_option maxRecDepth 100000 in
set_option maxHeartbeats 4000000 in
theorem nodes_walk (t : T) (hsz : Tp.size t ≤ 10000) (n₀ Bt l : Nat) (a0 : Option Addr) (cap0 : Nat) (J Jx : (Nat → Prop) → List Nd → World → Prop) (W : World) (hJ : ∀ s, Ab W.heap.size fun M W' => J M s W') (hJx : ∀ s, Ab W.heap.size fun M W' => Jx M s W')
    (hY : ∀ M pre x W1, J M pre W1 → (∀ k, M k → W.heap.size ≤ k ∧ k < W1.heap.size) → W.heap.size ≤ W1.heap.size → ndOk t pre x → YieldAt Fence.wide 8 Try.prog l (ndEnc x) W1 fun e W' =>
      (e = .returned (.bool true) ∧ J M (pre ++ [x]) W' ∧ Turns (fun k => n₀ ≤ k ∧ ¬ M k) W1 W') ∨ (e = .returned (.bool false) ∧ Jx M (pre ++ [x]) W' ∧ W1.heap.size ≤ W'.heap.size))
    (h0 : J (fun _ => False) [] W) (hn₀ : n₀ ≤ W.heap.size) (hty : TyAt (LT n₀) W t a0 cap0) (c0 : W.cell? ⟨Bt, 0, none⟩ = some (.int .i64 t.kind)) (c1 : W.cell? ⟨Bt, 1, none⟩ = some (.int .i64 t.num)) (c2 : W.cell? ⟨Bt, 2, none⟩ = some (.slice a0 t.kids.length cap0)) :
    CallsIn Fence.wide 9 Try.prog 139 #[.func (.yield l) #[] #[], .pointer (some ⟨Bt, 0, none⟩)] W fun e W' => (∃ v, e = .returned v) ∧
      ((∃ M xs, ndAll t xs ∧ J M xs W' ∧ ∀ k, M k → W.heap.size ≤ k ∧ k < W'.heap.size) ∨ (∃ M pre, Jx M pre W' ∧ ∀ k, M k → W.heap.size ≤ k ∧ k < W'.heap.size)) := by
  have HY := Lib.hid hY; have HJ := Lib.hid hJ; have HX := Lib.hid hJx; clear hY hJ hJx
  obtain ⟨k0, hk0⟩ : ∃ k0, t.kind = k0 := ⟨_, rfl⟩
  obtain ⟨n0, hn0⟩ : ∃ n0, t.num = n0 := ⟨_, rfl⟩
  obtain ⟨m0, hm0⟩ : ∃ m0, t.kids.length = m0 := ⟨_, rfl⟩
  rw [hk0] at c0; rw [hn0] at c1; rw [hm0] at c2
  have HK := Lib.hid hk0; have HN := Lib.hid hn0; have HM := Lib.hid hm0; have HT := Lib.hid hty
  clear hk0 hn0 hm0 hty
  refine callsIn_of_wp Try.func139 rfl trivial ?_ rfl
  simp only [Try.ntmps139, List.size_toArray, List.length_cons, List.length_nil, Nat.reduceAdd, Nat.reduceSub, Array.replicate_succ, Array.replicate_zero, List.push_toArray, List.append_toArray, List.nil_append, List.cons_append]
  gi_wp2
  have hw0 := stk_start HT.out hn₀
  rw [HK.out, HN.out, HM.out] at hw0
  have HS := Lib.hid hw0; clear hw0
  gi_loopg [3] (Tp.size t) (fun gk v wr => ∃ M R pre, Stk (fun b => b < n₀ ∨ b = W.heap.size) t (W.heap.size + 1) M R pre v wr ∧ J M pre wr ∧ (∀ k, M k → W.heap.size ≤ k ∧ k < wr.heap.size) ∧ M W.heap.size ∧ W.heap.size + 1 ≤ wr.heap.size ∧ gk = (todo R).length)
  case atStart =>
    refine ⟨_, _, _, HS.out, HJ.out [] _ _ W _ h0 (fun _ h => h.elim) ((Turns.alloc _ _ _).trans (Turns.alloc _ _ _)) (fun k hk => ⟨.inr (by omega), by simp; omega⟩), fun k hk => ⟨by omega, by simp; omega⟩, .inl rfl, by simp, by simp [todo, Tp.pres_length, Tp.sizes]⟩
  case round =>
    obtain ⟨M, R, pre, hS, hj, hM, hMB, hbs, rfl⟩ := hrel
    have HS' := Lib.hid hS; have HJ' := Lib.hid hj; have HM' := Lib.hid hM; have HMB := Lib.hid hMB; have HB := Lib.hid hbs
    clear HS hS hj hM hMB hbs
    cases R with
    | nil =>
      obtain ⟨av, cv, rfl⟩ := own_shapeT HS'.out.own
      gi_wp2
      go_end0
      exact ⟨⟨_, rfl⟩, .inl ⟨M, pre, by have := HS'.out.todo; simpa [todo, ndAll] using this, HJ'.out, HM'.out⟩⟩
    | cons e R =>
      obtain ⟨g, cap, rfl, hg1, hg2, hcp, hcm, h0, h1, hown⟩ := own_top (v := u3) HS'.out.own
      have hgood := HS'.out.each e (by simp)
      obtain ⟨hne, hsl, hdd⟩ := id hgood
      obtain ⟨ts, ea, ecap, d⟩ := e
      dsimp only at h0 h1 hne hsl hdd hgood
      cases ts with
      | nil => exact absurd rfl hne
      | cons x rs =>
        obtain ⟨hl1, hl2, hl3⟩ := hsl
        obtain ⟨b, o, rfl, hGb, hnode, htail⟩ := hl3.head
        obtain ⟨xa, xcap, hxty, x0, x1, x2⟩ := hnode.ty
        obtain ⟨xk, hxk⟩ : ∃ y, x.kind = y := ⟨_, rfl⟩
        obtain ⟨xn, hxn⟩ : ∃ y, x.num = y := ⟨_, rfl⟩
        obtain ⟨xm, hxm⟩ : ∃ y, x.kids.length = y := ⟨_, rfl⟩
        obtain ⟨rm, hrm⟩ : ∃ y, rs.length = y := ⟨_, rfl⟩
        obtain ⟨r, hr⟩ : ∃ y, R.length = y := ⟨_, rfl⟩
        rw [hr] at h0 h1 hcp hown ⊢
        rw [hxk] at x0; rw [hxn] at x1; rw [hxm] at x2
        rw [List.length_cons, hrm] at h0
        have hR : r ≤ 10000 := by have := HS'.out.len; rw [List.length_cons, hr] at this; exact Nat.le_trans (Nat.le_of_succ_le this) hsz
        have hbB : b < wr.heap.size := cell_lt x0
        have HMU := Lib.hid (show ∀ k, (M k ∨ k = wr.heap.size ∨ k = wr.heap.size + 1) → W.heap.size ≤ k ∧ k < wr.heap.size + 2 from fun k hk => by
          rcases hk with h | h
          · have := HM'.out k h; omega
          · have := HB.out; omega)
        have HTW := Lib.hid (show Turns (fun _ => False) wr ((wr.alloc (.cells #[.slice (some ⟨b, o, none⟩) (rm + 1) ecap, .int .i64 (d : Int)] 185)).alloc (.cells #[.int .i64 xk, .int .i64 xn, .slice xa xm xcap] 26)) from (Turns.alloc _ _ _).trans (Turns.alloc _ _ _))
        obtain ⟨fn, tmps, assign, body, hy, hRd⟩ := HY.out (fun k => M k ∨ k = wr.heap.size ∨ k = wr.heap.size + 1) pre ⟨x, d, xa, xcap⟩ ((wr.alloc (.cells #[.slice (some ⟨b, o, none⟩) (rm + 1) ecap, .int .i64 (d : Int)] 185)).alloc (.cells #[.int .i64 xk, .int .i64 xn, .slice xa xm xcap] 26))
          (HJ.out pre M _ wr _ HJ'.out HM'.out ((Turns.alloc _ _ _).trans (Turns.alloc _ _ _)) (fun k hk => ⟨hk.elim .inl (fun h => .inr (by omega)), by simp; exact (HMU.out k hk).2⟩)) (fun k hk => ⟨(HMU.out k hk).1, by simp; exact (HMU.out k hk).2⟩) (by have := HB.out; simp; omega) (nd_ok HS'.out hxty hsz)
        simp only [ndEnc, tv, hxk, hxn, hxm] at hy
        have HXK := Lib.hid hxk; have HXN := Lib.hid hxn; have HXM := Lib.hid hxm; have HRM := Lib.hid hrm; have HR := Lib.hid hr; have HNE := Lib.hid hne; have HDD := Lib.hid hdd; have HXTY := Lib.hid hxty; have HTAIL := Lib.hid htail; have HOWN := Lib.hid hown; have HL := Lib.hid hl3; have HGOOD := Lib.hid hgood; have HGB := Lib.hid hGb; have HND := Lib.hid hnode
        clear hxk hxn hxm hrm hr hne hdd hxty htail hown hl3 hGb hnode hgood
        have HCP := Lib.hid hcp; have HCM := Lib.hid hcm; have HG1 := Lib.hid hg1; have HG2 := Lib.hid hg2; have HL1 := Lib.hid hl1; have HL2 := Lib.hid hl2; have HRR := Lib.hid hR
        gi_wp2
        refine hRd.mono ?_
        rintro e W3 (⟨rfl, hJ3, hT3⟩ | ⟨rfl, hJx3, hs3⟩)
        · have HS3 := Lib.hid (show wr.heap.size + 2 ≤ W3.heap.size from by have := hT3.size; simpa using this)
          have hblk : ∀ k, (k < n₀ ∨ M k) → W3.heap[k]? = wr.heap[k]? := fun k hk => by
            have hlt : k < wr.heap.size := hk.elim (fun h => Nat.lt_of_lt_of_le h (Nat.le_trans hn₀ (Nat.le_of_succ_le HB.out))) (fun h => (HM'.out k h).2)
            exact (hT3.block k (by simp; omega) (fun h => hk.elim (fun h' => absurd h.1 (Nat.not_le.2 h')) (fun h' => h.2 (.inl h')))).trans (HTW.out.block k hlt (fun h => h))
          have s5 := hT3.block _ (by simp; omega) (fun h => h.2 (.inr (.inl rfl)))
          have s6 := hT3.block _ (by simp) (fun h => h.2 (.inr (.inr rfl)))
          have d0 : W3.cell? ⟨wr.heap.size, 0, none⟩ = some (.slice (some ⟨b, o, none⟩) (rm + 1) ecap) := cell_box (box1 _ _ _ _ _) s5 rfl
          have d1 : W3.cell? ⟨wr.heap.size, 1, none⟩ = some (.int .i64 (d : Int)) := cell_box (box1 _ _ _ _ _) s5 rfl
          have d2 : W3.cell? ⟨wr.heap.size + 1, 2, none⟩ = some (.slice xa xm xcap) := cell_box (box2 _ _ _ _ _) s6 rfl
          clear s5 s6
          have hown3 : W3.ownsRow (W.heap.size + 1) 185 2 (.slice (some ⟨g, 0, none⟩) r cap) r (stCells R.reverse) := own_same HOWN.out (fun y hy => hblk y (.inr (by injection hy with hy; subst hy; exact HS'.out.mine _ rfl)))
          have fin : ∀ (E : List Ent) (v5 : Value) (W5 : World), Turns (fun k => M k ∨ k = wr.heap.size ∨ k = wr.heap.size + 1) W3 W5 → (∀ k, (k < n₀ ∨ k = W.heap.size) → W5.heap[k]? = wr.heap[k]?) →
            (∀ e ∈ E, e.good (fun b => b < n₀ ∨ b = W.heap.size) W5 t) → todo E = Tp.pres x.kids (d + 1) ++ Tp.pres rs d → W5.ownsRow (W.heap.size + 1) 185 2 v5 (E ++ R).length (stCells (E ++ R).reverse) → (∀ y, v5.ownBlock = some y → y = g ∨ W3.heap.size ≤ y) →
            (todo (E ++ R)).length < (todo (⟨x :: rs, some ⟨b, o, none⟩, ecap, d⟩ :: R)).length ∧ (∃ M R' pre', Stk (fun b => b < n₀ ∨ b = W.heap.size) t (W.heap.size + 1) M R' pre' v5 W5 ∧ J M pre' W5 ∧ (∀ k, M k → W.heap.size ≤ k ∧ k < W5.heap.size) ∧ M W.heap.size ∧ W.heap.size + 1 ≤ W5.heap.size ∧ (todo (E ++ R)).length = (todo R').length) := by
            intro E v5 W5 q1 q2 q3 q4 q5 q6
            exact round_end HJ.out HS'.out hJ3 (fun k hk => ⟨(HMU.out k hk).1, Nat.lt_of_lt_of_le (HMU.out k hk).2 HS3.out⟩) (Nat.le_trans HB.out (by have := HS3.out; omega)) (.inl HMB.out) (.inl (HS'.out.mine _ rfl)) q1 q2 q3 q4 q5 q6
          have hpop := st_pop g (r + 1) cap r (by omega) hcp
          have HOWN3 := Lib.hid hown3
          clear h0 h1 x0 x1 x2 hown3
          have HBLK := Lib.hid hblk; clear hblk
          have hd0 : (0 : Int) ≤ d := Int.natCast_nonneg _
          have HF := Lib.hid (fin : ∀ (E : List Ent) (v5 : Value) (W5 : World), Turns (fun k => M k ∨ k = wr.heap.size ∨ k = wr.heap.size + 1) W3 W5 → (∀ k, (k < n₀ ∨ k = W.heap.size) → W5.heap[k]? = wr.heap[k]?) →
            (∀ e ∈ E, e.good (fun b => b < n₀ ∨ b = W.heap.size) W5 t) → todo E = Tp.pres x.kids (d + 1) ++ Tp.pres rs d → W5.ownsRow (W.heap.size + 1) 185 2 v5 (E ++ R).length (stCells (E ++ R).reverse) → (∀ y, v5.ownBlock = some y → y = g ∨ W3.heap.size ≤ y) →
            (todo (E ++ R)).length < (todo (⟨x :: rs, some ⟨b, o, none⟩, ecap, d⟩ :: R)).length ∧ (∃ M R' pre', Stk (fun b => b < n₀ ∨ b = W.heap.size) t (W.heap.size + 1) M R' pre' v5 W5 ∧ J M pre' W5 ∧ (∀ k, M k → W.heap.size ≤ k ∧ k < W5.heap.size) ∧ M W.heap.size ∧ W.heap.size + 1 ≤ W5.heap.size ∧ (todo (E ++ R)).length = (todo R').length))
          clear fin
          obtain ⟨hr10, hr20, hr30, hr40⟩ := b32 HRR.out
          have hb3 : W.heap.size + 1 ≤ W3.heap.size := Nat.le_trans HB.out (Nat.le_trans (by simp; omega) hT3.size)
          have HL3 := Lib.hid hr10; have HL4 := Lib.hid hr20; have HL5 := Lib.hid hr30; have HL6 := Lib.hid hr40; have HB3 := Lib.hid hb3
          clear hr10 hr20 hr30 hr40 hb3
          have hd10 : (d : Int) ≤ 10001 := d_bound HDD.out hsz
          have HG3 := Lib.hid (show ∀ k, (k < n₀ ∨ k = W.heap.size) → W3.heap[k]? = wr.heap[k]? from fun k h => HBLK.out k (h.elim .inl fun h => .inr (by rw [h]; exact HMB.out)))
          have HGL := Lib.hid (show ∀ k, (k < n₀ ∨ k = W.heap.size) → k < W3.heap.size from fun k h => lt_G hn₀ HB3.out h)
          have HGN := Lib.hid (show ¬ (g < n₀ ∨ g = W.heap.size) from not_G HG1.out hn₀)
          have HSM := Lib.hid (show ∀ (w1 : World) (o' : Obj), (W3.alloc o').grownBy w1 (some g) → w1.heap[wr.heap.size + 1]? = W3.heap[wr.heap.size + 1]? from fun w1 o' h => far_block h (Nat.lt_of_lt_of_le (by simp) hT3.size) (by have := HG2.out; omega))
          have HSN := Lib.hid (show ∀ (w1 : World) (o' : Obj), (W3.alloc o').grownBy w1 (some g) → w1.heap[wr.heap.size]? = W3.heap[wr.heap.size]? from fun w1 o' h => far_block h (Nat.lt_of_lt_of_le (by simp; omega) hT3.size) (by have := HG2.out; omega))
          have HMG := Lib.hid (show M g from HS'.out.mine g rfl)
          have HLE := Lib.hid (show rm + 1 ≤ ecap from by have := HL1.out; rw [List.length_cons, HRM.out] at this; exact this)
          obtain ⟨i0, hi, hz0, hz1, hz2⟩ := info_parts info_st
          have tl : rs ≠ [] → Ent.good (fun b => b < n₀ ∨ b = W.heap.size) wr t ⟨rs, some ⟨b, o + 3, none⟩, ecap - 1, d⟩ := fun h => good_tail (fun _ _ => rfl) HGOOD.out h
          have tk : x.kids ≠ [] → Ent.good (fun b => b < n₀ ∨ b = W.heap.size) wr t ⟨x.kids, xa, xcap, d + 1⟩ := fun h => good_kids (fun _ _ => rfl) HGOOD.out HXTY.out h
          have TL := Lib.hid tl; have TK := Lib.hid tk; clear tl tk
          rcases Nat.eq_zero_or_pos rm with hz | hz
          · have hrs : rs = [] := List.eq_nil_of_length_eq_zero (by rw [HRM.out]; exact hz)
            subst hz
            rcases Nat.eq_zero_or_pos xm with hm | hm
            · have hks : x.kids = [] := List.eq_nil_of_length_eq_zero (by rw [HXM.out]; exact hm)
              have F := HF.out [] (.slice (some ⟨g, 0, none⟩) r cap) W3 (Turns.refl _ _) (fun k h => HBLK.out k (h.elim .inl fun h => .inr (by rw [h]; exact HMB.out))) (fun _ h => by cases h) (by rw [hrs, hks]; rfl) (by rw [List.nil_append, HR.out]; exact HOWN3.out) (fun y h => by injection h with h; exact .inl h.symm)
              have FF := Lib.hid F; clear F
              subst hm
              clear hks hrs hi hz0 hz1 hz2
              gi_wp2
              gi_roundg (todo R).length
              case measure => exact FF.out.1
              case rel => exact FF.out.2
            · have HRS := Lib.hid hrs; clear hrs
              have hks : x.kids ≠ [] := List.length_pos_iff.1 (by rw [HXM.out]; exact hm)
              have GD := Lib.hid (TK.out hks)
              clear hks
              gi_wp2_with (gi_at_builtin; refine wpListIn_append_lies _ rfl (.tmp 51) (.tmp 58) 186 rfl (W.heap.size + 1) 185 i0 (.agg #[.slice none 0 0, .int .i64 0]) 2 32 Try.underlying186 hi hz0 hz1 hz2 rfl (by decide) (.slice (some ⟨g, 0, none⟩) r cap) r (stCells R.reverse) rfl (HOWN3.out.alloc _) ⟨W3.heap.size, 0, none⟩ 1 1 [.slice xa xm xcap, .int .i64 ((d : Int) + 1)] rfl rfl (World.news_of_block (World.alloc_heap_new W3 _)) (two_cells _ _ _ _) (by decide) HL5.out HL3.out (Nat.le_trans HB3.out (by simp)) ?_; intro g1 cap1 w1 hown1 hgr1 hly1)
              have F := HF.out [⟨x.kids, xa, xcap, d + 1⟩] (.slice (some ⟨g1, 0, none⟩) (r + 1) cap1) w1 (push_turns (Turns.refl _ _) hgr1 (fun k hk _ => by cases hk; exact .inl HMG.out)) (push_same HG3.out HGL.out hgr1 (fun k hk => by cases hk; exact HGN.out))
                (by intro e he; obtain rfl := List.mem_singleton.1 he; exact good_same (push_same HG3.out HGL.out hgr1 (fun k hk => by cases hk; exact HGN.out)) GD.out) (by rw [HRS.out]; simp [todo, Tp.pres])
                (by rw [List.singleton_append, List.length_cons, List.reverse_cons, stCells_snoc, HR.out]; simp only [entCells, HXM.out, Int.natCast_add]; exact hown1) (fun y hy => by injection hy with hy; subst hy; exact lies_at hly1)
              gi_roundg (todo ([⟨x.kids, xa, xcap, d + 1⟩] ++ R)).length
              case measure => exact F.1
              case rel => exact F.2
          · have hrs : rs ≠ [] := List.length_pos_iff.1 (by rw [HRM.out]; exact hz)
            have GR := Lib.hid (TL.out hrs); clear hrs
            have htl := list_tail b o (rm + 1) ecap (by omega) HLE.out
            rw [Nat.add_sub_cancel] at htl
            rcases Nat.eq_zero_or_pos xm with hm | hm
            · have hks : x.kids = [] := List.eq_nil_of_length_eq_zero (by rw [HXM.out]; exact hm)
              subst hm
              have HKS := Lib.hid hks; clear hks
              gi_upto_region 8 with fail
              refine wpIn_wide.2 ?_
              go_region_law (first | (refine step_append_lies _ ?_ (.tmp 38) (.tmp 45) 186 ?_ (W.heap.size + 1) 185 i0 (.agg #[.slice none 0 0, .int .i64 0]) 2 32 Try.underlying186 hi hz0 hz1 hz2 ?_ ?_ (.slice (some ⟨g, 0, none⟩) r cap) r (stCells R.reverse) ?_ ?_ ⟨W3.heap.size, 0, none⟩ 1 1 [.slice (some ⟨b, o + 3, none⟩) rm (ecap - 1), .int .i64 (d : Int)] ?_ ?_ ?_ ?_ ?_ ?_ ?_ ?_ (W3.heap.size + 1) ?_ ?_; (· rfl); (· rfl); (· rfl); (· decide); (· rfl); (· exact HOWN3.out.alloc _); (· rfl); (· rfl); (· exact World.news_of_block (World.alloc_heap_new W3 _)); (· exact two_cells _ _ _ _); (· decide); (· exact HL5.out); (· exact HL3.out); (· exact Nat.le_trans HB3.out (by simp)); (· simp); intro g1 cap1 w1 hown1 hgr1 hly1 _))
              all_goals
                have hgr := undrew hgr1
                have F := HF.out [⟨rs, some ⟨b, o + 3, none⟩, ecap - 1, d⟩] (.slice (some ⟨g1, 0, none⟩) (r + 1) cap1) w1 (push_turns (Turns.refl _ _) hgr (fun k hk _ => by cases hk; exact .inl HMG.out)) (push_same HG3.out HGL.out hgr (fun k hk => by cases hk; exact HGN.out))
                  (by intro e he; obtain rfl := List.mem_singleton.1 he; exact good_same (push_same HG3.out HGL.out hgr (fun k hk => by cases hk; exact HGN.out)) GR.out) (by rw [HKS.out]; simp [todo, Tp.pres])
                  (by rw [List.singleton_append, List.length_cons, List.reverse_cons, stCells_snoc, HR.out]; simp only [entCells, HRM.out]; exact hown1) (fun y hy => by injection hy with hy; subst hy; exact lies_at' hly1)
                have FF := Lib.hid F
                have d2' : w1.cell? ⟨wr.heap.size + 1, 2, none⟩ = some (.slice xa 0 xcap) := (World.cell?_of_block (w := W3) (a := ⟨wr.heap.size + 1, 2, none⟩) (HSM.out w1 _ hgr)).trans d2
                clear F hgr hgr1 hly1 hown1 d0 d1 d2 hpop htl hi hz0 hz1 hz2
                gi_wp2
                gi_roundg (todo ([⟨rs, some ⟨b, o + 3, none⟩, ecap - 1, d⟩] ++ R)).length
                case measure => exact FF.out.1
                case rel => exact FF.out.2
            · have hks : x.kids ≠ [] := List.length_pos_iff.1 (by rw [HXM.out]; exact hm)
              have GD := Lib.hid (TK.out hks)
              clear hks
              gi_upto_region 8 with fail
              refine wpIn_wide.2 ?_
              go_region_law (first | (refine step_append_lies _ ?_ (.tmp 38) (.tmp 45) 186 ?_ (W.heap.size + 1) 185 i0 (.agg #[.slice none 0 0, .int .i64 0]) 2 32 Try.underlying186 hi hz0 hz1 hz2 ?_ ?_ (.slice (some ⟨g, 0, none⟩) r cap) r (stCells R.reverse) ?_ ?_ ⟨W3.heap.size, 0, none⟩ 1 1 [.slice (some ⟨b, o + 3, none⟩) rm (ecap - 1), .int .i64 (d : Int)] ?_ ?_ ?_ ?_ ?_ ?_ ?_ ?_ (W3.heap.size + 1) ?_ ?_; (· rfl); (· rfl); (· rfl); (· decide); (· rfl); (· exact HOWN3.out.alloc _); (· rfl); (· rfl); (· exact World.news_of_block (World.alloc_heap_new W3 _)); (· exact two_cells _ _ _ _); (· decide); (· exact HL5.out); (· exact HL3.out); (· exact Nat.le_trans HB3.out (by simp)); (· simp); intro g1 cap1 w1 hown1 hgr1 hly1 _))
              all_goals
                have hgr := undrew hgr1
                have hT1 := push_turns (M := fun k => M k ∨ k = wr.heap.size ∨ k = wr.heap.size + 1) (Turns.refl _ _) hgr (fun k hk _ => by cases hk; exact .inl HMG.out)
                have hS1 := push_same HG3.out HGL.out hgr (fun k hk => by cases hk; exact HGN.out)
                have hL1 : ∀ k, (k < n₀ ∨ k = W.heap.size) → k < w1.heap.size := fun k h => Nat.lt_of_lt_of_le (HGL.out k h) hT1.size
                have hg11 := lies_at' hly1
                have HT1 := Lib.hid hT1; have HS1 := Lib.hid hS1; have HL1' := Lib.hid hL1; have HG11 := Lib.hid hg11; have HOWN4 := Lib.hid hown1
                have HB4 := Lib.hid (Nat.le_trans HB3.out hT1.size)
                have d2' : w1.cell? ⟨wr.heap.size + 1, 2, none⟩ = some (.slice xa xm xcap) := (World.cell?_of_block (w := W3) (a := ⟨wr.heap.size + 1, 2, none⟩) (HSM.out w1 _ hgr)).trans d2
                have d1' : w1.cell? ⟨wr.heap.size, 1, none⟩ = some (.int .i64 (d : Int)) := (World.cell?_of_block (w := W3) (a := ⟨wr.heap.size, 1, none⟩) (HSN.out w1 _ hgr)).trans d1
                clear hT1 hS1 hL1 hg11 hgr hgr1 hly1 hown1 d0 d1 d2 hpop htl
                gi_wp2_with (gi_at_builtin; refine wpListIn_append_lies _ rfl (.tmp 51) (.tmp 58) 186 rfl (W.heap.size + 1) 185 i0 (.agg #[.slice none 0 0, .int .i64 0]) 2 32 Try.underlying186 hi hz0 hz1 hz2 rfl (by decide) (.slice (some ⟨g1, 0, none⟩) (r + 1) cap1) (r + 1) (stCells R.reverse ++ [.slice (some ⟨b, o + 3, none⟩) rm (ecap - 1), .int .i64 (d : Int)]) rfl (HOWN4.out.alloc _) ⟨w1.heap.size, 0, none⟩ 1 1 [.slice xa xm xcap, .int .i64 ((d : Int) + 1)] rfl rfl (World.news_of_block (World.alloc_heap_new w1 _)) (two_cells _ _ _ _) (by decide) HL6.out HL4.out (Nat.le_trans HB4.out (by simp)) ?_; intro g2 cap2 w2 hown2 hgr2 hly2)
                have hg1n : ¬ (g1 < n₀ ∨ g1 = W.heap.size) := by
                  rcases HG11.out with h | h
                  · rw [h]; exact HGN.out
                  · exact fun h' => by have := HGL.out g1 h'; omega
                have hS2 := push_same HS1.out HL1'.out hgr2 (fun k hk => by cases hk; exact hg1n)
                have F := HF.out [⟨x.kids, xa, xcap, d + 1⟩, ⟨rs, some ⟨b, o + 3, none⟩, ecap - 1, d⟩] (.slice (some ⟨g2, 0, none⟩) (r + 1 + 1) cap2) w2 (push_turns HT1.out hgr2 (fun k hk h => by injection hk with hk; subst hk; exact HG11.out.elim (fun h' => .inl (by have := HMG.out; rw [← h'] at this; exact this)) (fun h' => absurd h (Nat.not_lt.2 h')))) hS2
                  (List.forall_mem_cons.2 ⟨good_same hS2 GD.out, List.forall_mem_cons.2 ⟨good_same hS2 GR.out, fun _ h => by cases h⟩⟩) (by simp [todo])
                  (by simp only [List.cons_append, List.nil_append, List.length_cons, List.reverse_cons, stCells_snoc, HR.out, entCells, HRM.out, HXM.out, Int.natCast_add]; exact hown2) (fun y hy => by injection hy with hy; subst hy; exact lies2 (lies_at hly2) HG11.out HT1.out.size)
                gi_roundg (todo ([⟨x.kids, xa, xcap, d + 1⟩, ⟨rs, some ⟨b, o + 3, none⟩, ecap - 1, d⟩] ++ R)).length
                case measure => exact F.1
                case rel => exact F.2
        · gi_wp2
          refine bodyPost_ret (results_none rfl _ _ _) rfl ?_
          exact ⟨⟨_, rfl⟩, .inr ⟨_, _, hJx3, fun k hk => ⟨(HMU.out k hk).1, Nat.lt_of_lt_of_le (HMU.out k hk).2 (Nat.le_trans (by simp) hs3)⟩⟩⟩
end Go.Proofs.Ytaaapdfdedknfaa

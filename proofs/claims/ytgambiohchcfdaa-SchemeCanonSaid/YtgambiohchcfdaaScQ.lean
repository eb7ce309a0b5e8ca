/- The law SchemeCanon: its walk. -/
import Derived.Test.YtgambiohchcfdaaScW
import Derived.Test.YtgambiohchcfdaaScP
import Derived.Test.YtgambiohchcfdaaScA
import Derived.Test.YtgambiohchcfdaaAbA
namespace Go.Proofs.Ytgambiohchcfdaa
open Go Go.RowKit
open Tp (T Bd)
mutual
theorem sub_le {L : List Bd} (h : ∀ n v, Tp.look L n = some v → Tp.size v = 1) : ∀ t : T, Tp.size (Tp.sub L t) ≤ Tp.size t
  | .mk k n l => by
    by_cases hk : k = 6
    · subst hk
      have hp := Tp.size_pos (.mk 6 n l)
      simp only [Tp.sub, if_true]
      cases hl : Tp.look L n with
      | none => exact Nat.le_refl _
      | some v => simp only [Option.getD_some]; rw [h n v hl]; omega
    · rw [Tp.sub_node hk]
      have := subs_le h l
      simp only [Tp.size]; omega
theorem subs_le {L : List Bd} (h : ∀ n v, Tp.look L n = some v → Tp.size v = 1) : ∀ l : List T, Tp.sizes (Tp.subs L l) ≤ Tp.sizes l
  | [] => by simp [Tp.subs]
  | t :: r => by
    have h1 := sub_le h t
    have h2 := subs_le h r
    simp only [Tp.subs, Tp.sizes]; omega
end
theorem canon_le (t : T) : Tp.size (Tp.canon t) ≤ Tp.size t := sub_le (fun n v hv => by
  obtain ⟨_, j, _, _, h4⟩ := numb_mem _ _ _ (Tp.look_mem hv)
  dsimp only at h4
  rw [h4]; simp [Tp.size, Tp.sizes]) t
theorem small_two {t u : T} (h : [t, u].all Tp.small = true) : Tp.size t ≤ 600 ∧ Tp.size u ≤ 600 := by
  simp only [List.all_cons, List.all_nil, Bool.and_true, Bool.and_eq_true] at h
  have key : ∀ x : T, Tp.small x = true → Tp.size x ≤ 600 := fun x hx => by
    unfold Tp.small at hx
    simp only [Bool.and_eq_true, Bool.not_eq_true', decide_eq_false_iff_not] at hx
    have h1 := hx.1.1
    simp only [Tp.sizes] at h1
    omega
  exact ⟨key t h.1, key u h.2⟩
set_option maxRecDepth 100000 in
set_option maxHeartbeats 8000000 in
theorem lcanon11_any (t : T) (a : Option Addr) (cap : Nat) (u : T) (b : Option Addr) (cap' : Nat) (w : World) (hty : TyAt (LT w.heap.size) w t a cap) (hty' : TyAt (LT w.heap.size) w u b cap') :
    Calls Try.prog 5 #[tv t a cap, tv u b cap'] w fun e w' => e = .returned (.bool true) ∧ Below w.heap.size w w' := by
  obtain ⟨k0, n0, m0, hv⟩ := TV.mk t
  obtain ⟨k9, n9, m9, hv'⟩ := TV.mk u
  rw [tv_of hv, tv_of hv']
  obtain ⟨W2, hW2⟩ : ∃ W2, (w.alloc (.cells #[.int .i64 k0, .int .i64 n0, .slice a m0 cap] 24)).alloc (.cells #[.int .i64 k9, .int .i64 n9, .slice b m9 cap'] 24) = W2 := ⟨_, rfl⟩
  have hb2 : Below w.heap.size w W2 := by rw [← hW2]; exact ((Below.refl _ _).alloc (Nat.le_refl _) _).alloc (by simp) _
  have bx : BoxT W2 w.heap.size t k0 n0 m0 a cap := ⟨hv, by rw [← hW2]; exact box1 _ _ _ _ _, ty_later hty hb2⟩
  have bu : BoxT W2 (w.heap.size + 1) u k9 n9 m9 b cap' := ⟨hv', by rw [← hW2]; exact box2 _ _ _ _ _, ty_later hty' hb2⟩
  obtain ⟨sm, hsm'⟩ : ∃ r, [t, u].all Tp.small = r := ⟨_, rfl⟩
  have hsm := small_any [t, u] (some ⟨W2.heap.size, 0, none⟩) 2 _ (by unfold maxLen; simp) (row_two bx.ty bu.ty hv.1 hv.2.1 hv.2.2 hv'.1 hv'.2.1 hv'.2.2)
  rw [hsm'] at hsm
  have HSM := Lib.hid hsm; have HSS := Lib.hid hsm'; have HB2 := Lib.hid hb2; have HW2 := Lib.hid hW2; have BX := Lib.hid bx; have BU := Lib.hid bu
  clear hsm hsm' hb2 hW2 hty hty' hv hv'
  go_enter Try.func5, Try.ntmps5
  go_upto_region 1 with fail
  rw [HW2.out]
  obtain ⟨c0, c1, c2⟩ := bx.cells
  obtain ⟨d0, d1, d2⟩ := bu.cells
  clear bx bu
  go_wp2_with fail
  refine HSM.out.mono ?_
  clear c0 c1 c2 d0 d1 d2
  rintro e w3 ⟨rfl, hb3⟩
  have hb23 : Below W2.heap.size W2 w3 := ((Below.refl _ _).alloc (Nat.le_refl _) _).tr hb3 (Nat.le_refl _)
  have BX3 := Lib.hid (BX.out.later hb23); have BU3 := Lib.hid (BU.out.later hb23); have HB3 := Lib.hid (HB2.out.tr hb23 (Nat.le_refl _))
  clear hb3 hb23
  cases sm with
  | false =>
    go_wp2_with fail
    go_ret
    exact ⟨rfl, HB3.out⟩
  | true =>
    obtain ⟨hst, hsu⟩ := small_two HSS.out
    have HST := Lib.hid hst; have HSU := Lib.hid hsu
    clear hst hsu
    obtain ⟨c0, c1, c2⟩ := BX3.out.cells
    obtain ⟨d0, d1, d2⟩ := BU3.out.cells
    have hr := rright_any (Tp.size t) t a cap w3 (Nat.le_refl _) BX3.out.ty
    rw [tv_of BX3.out.says] at hr
    obtain ⟨z, hz⟩ : ∃ z, Tp.right t = z := ⟨_, rfl⟩
    rw [hz] at hr
    have HR := Lib.hid hr; have HZ := Lib.hid hz
    clear hr hz
    go_wp2_with fail
    refine HR.out.mono ?_
    clear c0 c1 c2 d0 d1 d2
    rintro e w4 ⟨rfl, hb⟩
    have BX4 := Lib.hid (BX3.out.later hb); have BU4 := Lib.hid (BU3.out.later hb); have HB4 := Lib.hid (HB3.out.tr hb (Nat.le_refl _))
    clear hb
    cases z with
    | false =>
      go_wp2_with fail
      go_ret
      exact ⟨rfl, HB4.out⟩
    | true =>
      obtain ⟨d0, d1, d2⟩ := BU4.out.cells
      have hr := rright_any (Tp.size u) u b cap' w4 (Nat.le_refl _) BU4.out.ty
      rw [tv_of BU4.out.says] at hr
      obtain ⟨z, hz⟩ : ∃ z, Tp.right u = z := ⟨_, rfl⟩
      rw [hz] at hr
      have HR' := Lib.hid hr; have HZ' := Lib.hid hz
      clear hr hz
      go_wp2_with fail
      refine HR'.out.mono ?_
      clear d0 d1 d2
      rintro e w5 ⟨rfl, hb⟩
      have BX5 := Lib.hid (BX4.out.later hb); have BU5 := Lib.hid (BU4.out.later hb); have HB5 := Lib.hid (HB4.out.tr hb (Nat.le_refl _))
      clear hb
      cases z with
      | false =>
        go_wp2_with fail
        go_ret
        exact ⟨rfl, HB5.out⟩
      | true =>
        obtain ⟨c0, c1, c2⟩ := BX5.out.cells
        have hca := canon_any t k0 n0 m0 a cap w5 BX5.out.says BX5.out.ty (by have := HST.out; omega)
        have HCA := Lib.hid hca; clear hca
        go_upto_region 3 with fail
        go_wp2_with fail
        refine HCA.out.mono ?_
        clear c0 c1 c2
        rintro e w6 ⟨hb, hcase⟩
        obtain ⟨_, aa, ac, rfl, ht⟩ := hcase.resolve_right (fun h => by have h1 := h.1; rw [HZ.out] at h1; cases h1)
        obtain ⟨ya, hya⟩ : ∃ y, Tp.canon t = y := ⟨_, rfl⟩
        rw [hya] at ht ⊢
        obtain ⟨ak, an, am, hav⟩ := TV.mk ya
        rw [tv_of hav]
        obtain ⟨W6, hW6⟩ : ∃ W, w6.alloc (.cells #[.int .i64 ak, .int .i64 an, .slice aa am ac] 24) = W := ⟨_, rfl⟩
        obtain ⟨ba, hb6⟩ := box_new hav ht hW6
        have hd6 := hb.tr hb6 (Nat.le_refl _)
        have BX6 := Lib.hid (BX5.out.later hd6); have BU6 := Lib.hid (BU5.out.later hd6); have HB6 := Lib.hid (HB5.out.tr hd6 (Nat.le_refl _)); have BA6 := Lib.hid ba; have HW6 := Lib.hid hW6; have HYA := Lib.hid hya
        clear hb ht hcase ba hb6 hW6 hd6 hya hav
        go_upto_region 4 with fail
        rw [HW6.out]
        obtain ⟨d0, d1, d2⟩ := BU6.out.cells
        have hca := canon_any u k9 n9 m9 b cap' W6 BU6.out.says BU6.out.ty (by have := HSU.out; omega)
        have HCB := Lib.hid hca; clear hca
        go_wp2_with fail
        refine HCB.out.mono ?_
        clear d0 d1 d2
        rintro e w7 ⟨hb, hcase⟩
        obtain ⟨_, ba, bc, rfl, ht⟩ := hcase.resolve_right (fun h => by have h1 := h.1; rw [HZ'.out] at h1; cases h1)
        obtain ⟨yb, hyb⟩ : ∃ y, Tp.canon u = y := ⟨_, rfl⟩
        rw [hyb] at ht ⊢
        obtain ⟨bk, bn, bm, hbv⟩ := TV.mk yb
        rw [tv_of hbv]
        obtain ⟨W7, hW7⟩ : ∃ W, w7.alloc (.cells #[.int .i64 bk, .int .i64 bn, .slice ba bm bc] 24) = W := ⟨_, rfl⟩
        obtain ⟨bb, hb7⟩ := box_new hbv ht hW7
        have hd7 := hb.tr hb7 (Nat.le_refl _)
        have BX7 := Lib.hid (BX6.out.later hd7); have BU7 := Lib.hid (BU6.out.later hd7); have BA7 := Lib.hid (BA6.out.later hd7); have HB7 := Lib.hid (HB6.out.tr hd7 (Nat.le_refl _)); have BB7 := Lib.hid bb; have HW7 := Lib.hid hW7; have HYB := Lib.hid hyb
        clear hb ht hcase bb hb7 hW7 hd7 hyb hbv
        go_upto_region 5 with fail
        rw [HW7.out]
        obtain ⟨e0, e1, e2⟩ := BA7.out.cells
        have hra : Tp.right ya = true := by rw [← HYA.out]; exact Tp.canon_right HZ.out (by have := HST.out; omega)
        have hsa : Tp.size ya ≤ 600 := by rw [← HYA.out]; exact Nat.le_trans (canon_le t) HST.out
        have hcc : Tp.canon ya = ya := by rw [← HYA.out]; exact Tp.canon_twice HZ.out (by have := HST.out; omega)
        have hca := canon_any ya ak an am aa ac W7 BA7.out.says BA7.out.ty (by omega)
        have HCC := Lib.hid hca; have HRA := Lib.hid hra; have HSA := Lib.hid hsa; have HCE := Lib.hid hcc
        clear hca hra hsa hcc
        go_wp2_with fail
        refine HCC.out.mono ?_
        clear e0 e1 e2
        rintro e w8 ⟨hb, hcase⟩
        obtain ⟨_, ca, cc, rfl, ht⟩ := hcase.resolve_right (fun h => by have h1 := h.1; rw [HRA.out] at h1; cases h1)
        rw [HCE.out] at ht ⊢
        rw [tv_of BA7.out.says]
        obtain ⟨W8, hW8⟩ : ∃ W, w8.alloc (.cells #[.int .i64 ak, .int .i64 an, .slice ca am cc] 24) = W := ⟨_, rfl⟩
        obtain ⟨bc', hb8⟩ := box_new BA7.out.says ht hW8
        have hd8 := hb.tr hb8 (Nat.le_refl _)
        have BX8 := Lib.hid (BX7.out.later hd8); have BU8 := Lib.hid (BU7.out.later hd8); have BA8 := Lib.hid (BA7.out.later hd8); have BB8 := Lib.hid (BB7.out.later hd8); have HB8 := Lib.hid (HB7.out.tr hd8 (Nat.le_refl _)); have BC8 := Lib.hid bc'; have HW8 := Lib.hid hW8
        clear hb ht hcase bc' hb8 hW8 hd8
        go_upto_region 6 with fail
        rw [HW8.out]
        obtain ⟨e0, e1, e2⟩ := BA8.out.cells
        obtain ⟨f0, f1, f2⟩ := BC8.out.cells
        have hks := ks_any (w := W8) BC8.out.says BA8.out.says BC8.out.ty BA8.out.ty
        rw [Tp.same_refl] at hks
        have HKS := Lib.hid hks; clear hks
        go_wp2_with fail
        refine HKS.out.mono ?_
        clear e0 e1 e2 f0 f1 f2
        rintro e w9 ⟨rfl, hb⟩
        have BX9 := Lib.hid (BX8.out.later hb); have BU9 := Lib.hid (BU8.out.later hb); have BA9 := Lib.hid (BA8.out.later hb); have BB9 := Lib.hid (BB8.out.later hb); have HB9 := Lib.hid (HB8.out.tr hb (Nat.le_refl _))
        clear hb
        go_upto_region 8 with fail
        obtain ⟨e0, e1, e2⟩ := BA9.out.cells
        have hvs := rvarsall_any ya aa ac w9 (by have := HSA.out; omega) BA9.out.ty
        rw [tv_of BA9.out.says] at hvs
        have hvl : (Tp.vars ya []).length ≤ 1000000 := by have := Tp.vlenC ya []; simp only [List.length_nil] at this; have := HSA.out; omega
        have hvi : ∀ (i : Nat) (h : i < (Tp.vars ya []).length), (Tp.vars ya [])[i] = (i : Int) := by rw [← HYA.out]; exact (Tp.canon_vars HZ.out).2
        obtain ⟨vs, hvs'⟩ : ∃ z, Tp.vars ya [] = z := ⟨_, rfl⟩
        rw [hvs'] at hvs hvl hvi
        obtain ⟨m, hm⟩ : ∃ z, vs.length = z := ⟨_, rfl⟩
        rw [hm] at hvl
        have HVS := Lib.hid hvs; have HVL := Lib.hid hvl; have HVI := Lib.hid hvi; have HM := Lib.hid hm
        clear hvs hvl hvi hvs' hm
        go_wp2_with (go_at_call 29; (with_reducible refine HVS.out.mono ?_); clear e0 e1 e2; rintro e w10 ⟨v, rfl, hown, hb⟩; obtain ⟨va, vc, rfl⟩ := own_shapeT hown; rw [HM.out] at hown ⊢; have HVO := Lib.hid hown; have HB10 := Lib.hid hb; clear hown hb)
        go_loopg [12] m (fun gk i wr => ∃ k : Nat, k ≤ m ∧ i = .int .i64 (k : Int) ∧ wr = w10 ∧ gk = m - k)
        case atStart => exact ⟨0, Nat.zero_le _, rfl, rfl, rfl⟩
        case round =>
          obtain ⟨k, hkm, rfl, rfl, rfl⟩ := hrel
          by_cases hlt : k < m
          · have hkv : k < vs.length := by rw [HM.out]; exact hlt
            have hva : ∃ vb, va = some ⟨vb, 0, none⟩ ∧ wr.cell? ⟨vb, k, none⟩ = some (.int .i64 (k : Int)) := by
              rcases HVO.out.2 with ⟨_, h2⟩ | ⟨g, cp, cur, h1, _⟩
              · omega
              · injection h1 with h1 _ _
                subst h1
                refine ⟨g, rfl, ?_⟩
                have h3 := HVO.out.cells (g := g) rfl k (.int .i64 vs[k]) (by rw [List.getElem?_map, List.getElem?_eq_getElem hkv]; rfl)
                rw [add_flat, Nat.zero_add, HVI.out k hkv] at h3
                exact h3
            obtain ⟨vb, rfl, v0⟩ := hva
            obtain ⟨i1, i2⟩ := pt_int hlt
            go_wp2_with fail
            go_roundg (m - (k + 1))
            case measure => omega
            case rel => exact ⟨k + 1, hlt, wrap_k4 (by have := HVL.out; omega), rfl, rfl⟩
          · obtain rfl : k = m := by omega
            go_upto_region 14 with fail
            have BXA := Lib.hid (BX9.out.later HB10.out); have BUA := Lib.hid (BU9.out.later HB10.out); have BAA := Lib.hid (BA9.out.later HB10.out); have BBA := Lib.hid (BB9.out.later HB10.out); have HBA := Lib.hid (HB9.out.tr HB10.out (Nat.le_refl _))
            have hm1 := match_mtc (w := wr) BXA.out.says BUA.out.says BXA.out.ty BUA.out.ty (by have := HST.out; have := HSU.out; omega)
            have hm2 := fun x (h : Below wr.heap.size wr x) => match_mtc (w := x) (BUA.out.later h).says (BXA.out.later h).says (BUA.out.later h).ty (BXA.out.later h).ty (by have := HST.out; have := HSU.out; omega)
            have hks := fun x (h : Below wr.heap.size wr x) => ks_any (w := x) (BAA.out.later h).says (BBA.out.later h).says (BAA.out.later h).ty (BBA.out.later h).ty
            have hsame := Tp.canon_match HZ.out HZ'.out
            rw [HYA.out, HYB.out] at hsame
            rw [hsame] at hks
            rw [Tp.mtc_right HZ.out HZ'.out] at hm1
            rw [Tp.mtc_right HZ'.out HZ.out] at hm2
            obtain ⟨z1, hz1⟩ : ∃ z, (Tp.mat t u []).isSome = z := ⟨_, rfl⟩
            obtain ⟨z2, hz2⟩ : ∃ z, (Tp.mat u t []).isSome = z := ⟨_, rfl⟩
            rw [hz1, hz2] at hks
            have HM1 := Lib.hid hm1; have HM2 := Lib.hid hm2; have HKS2 := Lib.hid hks; have HZ1 := Lib.hid hz1; have HZ2 := Lib.hid hz2
            clear hm1 hm2 hks hsame hz1 hz2
            have HCX := Lib.hid (fun x (h : Below wr.heap.size wr x) => (⟨(BXA.out.later h).cells, (BUA.out.later h).cells, (BAA.out.later h).cells, (BBA.out.later h).cells⟩ : _ ∧ _ ∧ _ ∧ _))
            obtain ⟨⟨c0, c1, c2⟩, ⟨d0, d1, d2⟩, _, _⟩ := HCX.out wr (Below.refl _ _)
            go_wp2_with fail
            refine HM1.out.mono ?_
            clear c0 c1 c2 d0 d1 d2
            rintro e w11 ⟨xa, xc, rfl, -, -, -, hb⟩
            rw [HZ1.out]
            have HD11 := Lib.hid hb; clear hb
            obtain ⟨⟨c0, c1, c2⟩, ⟨d0, d1, d2⟩, _, _⟩ := HCX.out w11 HD11.out
            go_upto_region 15 with fail
            go_wp2_with fail
            refine (HM2.out _ HD11.out).mono ?_
            clear c0 c1 c2 d0 d1 d2
            rintro e w12 ⟨xa', xc', rfl, -, -, -, hb⟩
            rw [HZ2.out]
            have HD12 := Lib.hid (HD11.out.tr hb (Nat.le_refl _)); clear hb
            obtain ⟨_, _, ⟨c0, c1, c2⟩, ⟨d0, d1, d2⟩⟩ := HCX.out w12 HD12.out
            have HKS3 := Lib.hid (HKS2.out _ HD12.out)
            go_upto_region 16 with fail
            cases z1 <;> cases z2 <;>
            · go_wp2_with (first | (go_at_call 17; (refine HKS3.out.mono ?_); clear c0 c1 c2 d0 d1 d2; rintro e w13 ⟨rfl, hb⟩; have HD13 := Lib.hid (HD12.out.tr hb (Nat.le_refl _)); clear hb) | (go_at_call 22; (with_reducible refine (wakes11_any _).mono ?_); rintro e w14 ⟨rfl, hb⟩; have HD14 := Lib.hid (HD13.out.tr hb (Nat.le_refl _)); clear hb))
              go_ret
              exact ⟨rfl, HBA.out.tr HD14.out (Nat.le_refl _)⟩
end Go.Proofs.Ytgambiohchcfdaa

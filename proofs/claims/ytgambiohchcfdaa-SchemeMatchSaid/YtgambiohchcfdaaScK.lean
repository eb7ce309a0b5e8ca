/- Plain facts for the laws that put static types for variables. The law SchemeMatch: its walk. -/
import Derived.Test.YtgambiohchcfdaaScW
import Derived.Test.YtgambiohchcfdaaScA
import Derived.Test.YtgambiohchcfdaaAbA
namespace Go.Proofs.Ytgambiohchcfdaa
open Go Go.RowKit
open Tp (T Bd)
mutual
theorem pl_good (c : Bool) : ∀ t : T, Tp.right t = true → Tp.right (Tp.pl c t) = true ∧ Tp.without 5 (Tp.pl c t) = true
  | .mk k n l, h => by
    by_cases h5 : k = 5
    · rw [Tp.pl_dyn (t := .mk k n l) h5]
      exact ⟨by simp [Tp.right, Tp.rights, Tp.nodeRight, Tp.arity], by simp [Tp.without, Tp.withouts]⟩
    · by_cases h6 : k = 6 ∧ c = true
      · rw [Tp.pl_var (t := .mk k n l) h6.1 h6.2]
        exact ⟨by simp [Tp.right, Tp.rights, Tp.nodeRight, Tp.arity], by simp [Tp.without, Tp.withouts]⟩
      · rw [Tp.pl_node (t := .mk k n l) h5 h6]
        simp only [T.kind, T.num, T.kids]
        simp only [Tp.right, Bool.and_eq_true] at h
        obtain ⟨g1, g2⟩ := pls_good c l h.2
        rw [Tp.pls_map] at g1 g2
        refine ⟨?_, ?_⟩
        · simp only [Tp.right, List.length_map, Bool.and_eq_true]
          exact ⟨h.1, g1⟩
        · simp [Tp.without, h5, g2]
theorem pls_good (c : Bool) : ∀ l : List T, Tp.rights l = true → Tp.rights (Tp.pls c l) = true ∧ Tp.withouts 5 (Tp.pls c l) = true
  | [], _ => by simp [Tp.pls, Tp.rights, Tp.withouts]
  | t :: r, h => by
    obtain ⟨g1, g2⟩ := Tp.rights_cons h
    obtain ⟨a1, a2⟩ := pl_good c t g1
    obtain ⟨b1, b2⟩ := pls_good c r g2
    exact ⟨by simp [Tp.pls, Tp.rights, a1, b1], by simp [Tp.pls, Tp.withouts, a2, b2]⟩
end
theorem yAt_good {l : List T} (c : Bool) (i : Nat) (h : Tp.rights l = true) : Tp.right (yAt l c i) = true ∧ Tp.without 5 (yAt l c i) = true := by
  unfold yAt
  split
  · exact ⟨by simp [Tp.right, Tp.rights, Tp.nodeRight, Tp.arity], by simp [Tp.without, Tp.withouts]⟩
  · rename_i hl
    have hi : i % l.length < l.length := Nat.mod_lt _ (List.length_pos_iff.2 hl)
    rw [List.getD_eq_getElem?_getD, List.getElem?_eq_getElem hi]
    exact pl_good c _ (rights_mem' l h _ (List.getElem_mem hi))
theorem yAt_600 {l : List T} (c : Bool) (i : Nat) (h : ∀ t ∈ l, Tp.size t ≤ 600) : Tp.size (yAt l c i) ≤ 600 := by
  unfold yAt
  split
  · simp [Tp.size, Tp.sizes]
  · rename_i hl
    have hi : i % l.length < l.length := Nat.mod_lt _ (List.length_pos_iff.2 hl)
    rw [List.getD_eq_getElem?_getD, List.getElem?_eq_getElem hi]
    exact Nat.le_trans (Tp.pl_size c _) (h _ (List.getElem_mem hi))
theorem statL_mem {vs : List Int} {l : List T} {c : Bool} {b : Bd} (h : b ∈ statL vs l c vs.length) : b.1 ∈ vs ∧ ∃ i, b.2 = yAt l c i := by
  unfold statL at h
  rw [List.mem_map] at h
  obtain ⟨i, hi, rfl⟩ := h
  have hi' : i < vs.length := by simpa using hi
  refine ⟨?_, i, rfl⟩
  show vs.getD i 0 ∈ vs
  rw [List.getD_eq_getElem?_getD, List.getElem?_eq_getElem hi']
  exact List.getElem_mem hi'
mutual
theorem sub_mul {L : List Bd} {M : Nat} (hM : 1 ≤ M) (h : ∀ n v, Tp.look L n = some v → Tp.size v ≤ M) : ∀ t : T, Tp.right t = true → Tp.size (Tp.sub L t) ≤ Tp.size t * M
  | .mk k n l, hr => by
    have hp := Tp.size_pos (.mk k n l)
    by_cases hk : k = 6
    · subst hk
      obtain rfl := Tp.right_leaf hr
      cases hl : Tp.look L n with
      | none =>
        simp only [Tp.sub, if_true, hl, Option.getD_none]
        exact Nat.le_mul_of_pos_right _ hM
      | some v =>
        rw [Tp.sub_var hl]
        have := h n v hl
        simp only [Tp.size, Tp.sizes]
        omega
    · rw [Tp.sub_node hk]
      have hq := subs_mul hM h l (Tp.right_node hr).2.1
      simp only [Tp.size]
      rw [Nat.add_mul]; omega
theorem subs_mul {L : List Bd} {M : Nat} (hM : 1 ≤ M) (h : ∀ n v, Tp.look L n = some v → Tp.size v ≤ M) : ∀ l : List T, Tp.rights l = true → Tp.sizes (Tp.subs L l) ≤ Tp.sizes l * M
  | [], _ => by simp [Tp.subs, Tp.sizes]
  | t :: r, hr => by
    obtain ⟨g1, g2⟩ := Tp.rights_cons hr
    have h1 := sub_mul hM h t g1
    have h2 := subs_mul hM h r g2
    simp only [Tp.subs, Tp.sizes]
    rw [Nat.add_mul]; omega
end
mutual
theorem sub_occ {L : List Bd} {n : Int} {v : T} (hl : Tp.look L n = some v) : ∀ t : T, Tp.right t = true → Tp.occ n t = true → Tp.size v ≤ Tp.size (Tp.sub L t)
  | .mk k m l, hr, h => by
    by_cases hk : k = 6
    · subst hk
      obtain rfl := Tp.right_leaf hr
      simp [Tp.occ, Tp.occs] at h
      subst h
      rw [Tp.sub_var hl]
      exact Nat.le_refl _
    · rw [Tp.sub_node hk]
      simp [Tp.occ, hk] at h
      have := subs_occ hl l (Tp.right_node hr).2.1 h
      simp only [Tp.size]; omega
theorem subs_occ {L : List Bd} {n : Int} {v : T} (hl : Tp.look L n = some v) : ∀ l : List T, Tp.rights l = true → Tp.occs n l = true → Tp.size v ≤ Tp.sizes (Tp.subs L l)
  | [], _, h => by simp [Tp.occs] at h
  | t :: r, hr, h => by
    obtain ⟨g1, g2⟩ := Tp.rights_cons hr
    simp only [Tp.occs, Bool.or_eq_true] at h
    simp only [Tp.subs, Tp.sizes]
    rcases h with h | h
    · have := sub_occ hl t g1 h; omega
    · have := subs_occ hl r g2 h; omega
end
/-- Binds for just the variables of a right type, by right types, are right. -/
theorem sok_vars {t : T} {L : List Bd} (ht : Tp.right t = true) (hk : ∀ b ∈ L, b.1 ∈ Tp.vars t []) (hr : ∀ b ∈ L, Tp.right b.2 = true) : sokL t L = true := by
  unfold sokL
  rw [ht, Bool.true_and, List.all_eq_true]
  intro b hb
  have h1 := hk b hb
  rw [Tp.mem_vars] at h1
  obtain ⟨r1, r2⟩ := occ_range t b.1 ht (h1.resolve_left (by simp))
  unfold Tp.bdRight
  rw [hr b hb]
  simp [r1, r2]
/-- What the law puts for the variables. -/
theorem stat_facts {t : T} {l : List T} (c : Bool) (ht : Tp.right t = true) (hl : Tp.rights l = true) (hs : ∀ x ∈ l, Tp.size x ≤ 600) :
    sokL t (statL (Tp.vars t []) l c (Tp.vars t []).length) = true ∧ (∀ b ∈ statL (Tp.vars t []) l c (Tp.vars t []).length, Tp.right b.2 = true ∧ Tp.without 5 b.2 = true ∧ Tp.size b.2 ≤ 600) ∧ Tp.size (Tp.sub (statL (Tp.vars t []) l c (Tp.vars t []).length) t) ≤ Tp.size t * 600 := by
  have key : ∀ b ∈ statL (Tp.vars t []) l c (Tp.vars t []).length, Tp.right b.2 = true ∧ Tp.without 5 b.2 = true ∧ Tp.size b.2 ≤ 600 := fun b hb => by
    obtain ⟨_, i, hi⟩ := statL_mem hb
    rw [hi]
    exact ⟨(yAt_good c i hl).1, (yAt_good c i hl).2, yAt_600 c i hs⟩
  exact ⟨sok_vars ht (fun b hb => (statL_mem hb).1) (fun b hb => (key b hb).1), key, sub_mul (by omega) (fun n v hv => (key _ (Tp.look_mem hv)).2.2) t ht⟩
theorem stat_mat {t : T} {l : List T} (c : Bool) (ht : Tp.right t = true) (hl : Tp.rights l = true) (hs : ∀ x ∈ l, Tp.size x ≤ 600) : Tp.mat t (Tp.sub (statL (Tp.vars t []) l c (Tp.vars t []).length) t) [] = some (statL (Tp.vars t []) l c (Tp.vars t []).length) :=
  Tp.mat_put ht (fun b hb => ⟨((stat_facts c ht hl hs).2.1 b hb).1, ((stat_facts c ht hl hs).2.1 b hb).2.1⟩) (statL_keys _ _ _)
/-- What Match finds, put for the variables. -/
theorem mat_facts {t u : T} {N : List Bd} (ht : Tp.right t = true) (hu : Tp.right u = true) (h : Tp.mat t u [] = some N) : sokL t N = true ∧ Tp.sub N t = u ∧ (∀ b ∈ N, Tp.right b.2 = true ∧ Tp.without 5 b.2 = true ∧ Tp.size b.2 ≤ Tp.size u) ∧ N.length = (Tp.vars t []).length := by
  obtain ⟨⟨M, h1, h2⟩, h3, h4⟩ := Tp.mat_sound t u [] N ht hu h
  rw [List.nil_append] at h1
  subst h1
  have hk : N.map Prod.fst = Tp.vars t [] := h3
  have hmem : ∀ b ∈ N, b.1 ∈ Tp.vars t [] := fun b hb => by rw [← hk]; exact List.mem_map_of_mem hb
  refine ⟨sok_vars ht hmem (fun b hb => (h2 b hb).2), h4, fun b hb => ⟨(h2 b hb).2, (h2 b hb).1, ?_⟩, by rw [← hk, List.length_map]⟩
  have hocc : Tp.occ b.1 t = true := ((Tp.mem_vars t [] b.1).1 (hmem b hb)).resolve_left (by simp)
  have hnd : (N.map Prod.fst).Nodup := by rw [hk]; exact Tp.vars_nodup t [] List.nodup_nil
  have hlook : Tp.look N b.1 = some b.2 := by
    have : ∀ (L : List Bd), (L.map Prod.fst).Nodup → ∀ b ∈ L, Tp.look L b.1 = some b.2 := by
      intro L
      induction L with
      | nil => intro _ b h; cases h
      | cons x r ih =>
        intro hn b hb
        rw [List.map_cons, List.nodup_cons] at hn
        simp only [Tp.look]
        rcases List.mem_cons.1 hb with rfl | hb
        · rw [if_pos rfl]
        · rw [if_neg (fun e => hn.1 (by rw [e]; exact List.mem_map_of_mem hb))]
          exact ih hn.2 b hb
    exact this N hnd b hb
  rw [← h4]
  exact sub_occ hlook t ht hocc
end Go.Proofs.Ytgambiohchcfdaa
namespace Go.Proofs.Ytgambiohchcfdaa
open Go Go.RowKit
open Tp (T Bd)
theorem small_600 {l : List T} (h : l.all Tp.small = true) : ∀ x ∈ l, Tp.size x ≤ 600 := fun x hx => by
  have h := List.all_eq_true.1 h x hx
  unfold Tp.small at h
  simp only [Bool.and_eq_true, Bool.not_eq_true', decide_eq_false_iff_not] at h
  have h1 := h.1.1
  simp only [Tp.sizes] at h1
  omega
set_option maxRecDepth 100000 in
set_option maxHeartbeats 8000000 in
theorem lmatch11_any (t : T) (a : Option Addr) (cap : Nat) (u : T) (b : Option Addr) (cap' : Nat) (l : List T) (la : Option Addr) (ln lc : Nat) (w : World) (hty : TyAt (LT w.heap.size) w t a cap) (hty' : TyAt (LT w.heap.size) w u b cap') (hl : ln = l.length ∧ ln ≤ lc ∧ lc ≤ maxLen ∧ KidsAt (LT w.heap.size) w l la) :
    Calls Try.prog 4 #[tv t a cap, tv u b cap', .slice la ln lc] w fun e w' => e = .returned (.bool true) ∧ Below w.heap.size w w' := by
  obtain ⟨k0, n0, m0, hv⟩ := TV.mk t
  obtain ⟨k9, n9, m9, hv'⟩ := TV.mk u
  rw [tv_of hv, tv_of hv']
  obtain ⟨hln, hl1, hl2, hl3⟩ := hl
  obtain ⟨W2, hW2⟩ : ∃ W2, (w.alloc (.cells #[.int .i64 k0, .int .i64 n0, .slice a m0 cap] 24)).alloc (.cells #[.int .i64 k9, .int .i64 n9, .slice b m9 cap'] 24) = W2 := ⟨_, rfl⟩
  have hb2 : Below w.heap.size w W2 := by rw [← hW2]; exact ((Below.refl _ _).alloc (Nat.le_refl _) _).alloc (by simp) _
  have bx : BoxT W2 w.heap.size t k0 n0 m0 a cap := ⟨hv, by rw [← hW2]; exact box1 _ _ _ _ _, ty_later hty hb2⟩
  have bu : BoxT W2 (w.heap.size + 1) u k9 n9 m9 b cap' := ⟨hv', by rw [← hW2]; exact box2 _ _ _ _ _, ty_later hty' hb2⟩
  obtain ⟨sm, hsm'⟩ : ∃ r, [t, u].all Tp.small = r := ⟨_, rfl⟩
  have hsm := small_any [t, u] (some ⟨W2.heap.size, 0, none⟩) 2 _ (by unfold maxLen; simp) (row_two bx.ty bu.ty hv.1 hv.2.1 hv.2.2 hv'.1 hv'.2.1 hv'.2.2)
  rw [hsm'] at hsm
  have hlk : ∀ x, Below w.heap.size w x → KidsAt (LT x.heap.size) x l la := fun x h => hl3.below h (fun _ h => h) (fun _ h2 => Nat.lt_of_lt_of_le h2 h.size)
  have HSM := Lib.hid hsm; have HSS := Lib.hid hsm'; have HB2 := Lib.hid hb2; have HW2 := Lib.hid hW2; have BX := Lib.hid bx; have BU := Lib.hid bu; have HLN := Lib.hid hln; have HLM := Lib.hid (show l.length ≤ maxLen by omega); have HLK := Lib.hid hlk
  clear hsm hsm' hb2 hW2 hty hty' hv hv' hln hl1 hl2 hl3 hlk
  go_enter Try.func4, Try.ntmps4
  go_upto_region 1 with fail
  rw [HW2.out]
  obtain ⟨c0, c1, c2⟩ := bx.cells
  obtain ⟨d0, d1, d2⟩ := bu.cells
  clear bx bu
  go_wp2_with fail
  refine HSM.out.mono ?_
  clear c0 c1 c2 d0 d1 d2
  rintro e w3 ⟨rfl, hb3⟩
  have hb23 : Below W2.heap.size W2 w3 := ((Below.refl _ _).alloc (Nat.le_refl _) _).tr hb3 (Nat.le_refl _)
  have BX3 := Lib.hid (BX.out.later hb23); have BU3 := Lib.hid (BU.out.later hb23); have HB3 := Lib.hid (HB2.out.tr hb23 (Nat.le_refl _))
  clear hb3 hb23
  cases sm with
  | false =>
    go_wp2_with fail
    go_ret
    exact ⟨rfl, HB3.out⟩
  | true =>
    obtain ⟨sl, hsl'⟩ : ∃ r, l.all Tp.small = r := ⟨_, rfl⟩
    have hsl := small_any l la lc w3 HLM.out (HLK.out w3 HB3.out)
    rw [hsl', ← HLN.out] at hsl
    have HSL := Lib.hid hsl; have HSE := Lib.hid hsl'
    clear hsl hsl'
    go_wp2_with fail
    refine HSL.out.mono ?_
    rintro e w4 ⟨rfl, hb⟩
    have BX4 := Lib.hid (BX3.out.later hb); have BU4 := Lib.hid (BU3.out.later hb); have HB4 := Lib.hid (HB3.out.tr hb (Nat.le_refl _))
    clear hb
    cases sl with
    | false =>
      go_wp2_with fail
      go_ret
      exact ⟨rfl, HB4.out⟩
    | true =>
      by_cases h20 : (20 : Int) < (ln : Int)
      · go_wp2_with fail
        go_ret
        exact ⟨rfl, HB4.out⟩
      · obtain ⟨c0, c1, c2⟩ := BX4.out.cells
        have hr := rright_any (Tp.size t) t a cap w4 (Nat.le_refl _) BX4.out.ty
        rw [tv_of BX4.out.says] at hr
        obtain ⟨z, hz⟩ : ∃ z, Tp.right t = z := ⟨_, rfl⟩
        rw [hz] at hr
        have HR := Lib.hid hr; have HZ := Lib.hid hz
        clear hr hz
        go_wp2_with fail
        refine HR.out.mono ?_
        clear c0 c1 c2
        rintro e w5 ⟨rfl, hb⟩
        have BX5 := Lib.hid (BX4.out.later hb); have BU5 := Lib.hid (BU4.out.later hb); have HB5 := Lib.hid (HB4.out.tr hb (Nat.le_refl _))
        clear hb
        cases z with
        | false =>
          go_wp2_with fail
          go_ret
          exact ⟨rfl, HB5.out⟩
        | true =>
          obtain ⟨d0, d1, d2⟩ := BU5.out.cells
          have hr := rright_any (Tp.size u) u b cap' w5 (Nat.le_refl _) BU5.out.ty
          rw [tv_of BU5.out.says] at hr
          obtain ⟨z, hz⟩ : ∃ z, Tp.right u = z := ⟨_, rfl⟩
          rw [hz] at hr
          have HR' := Lib.hid hr; have HZ' := Lib.hid hz
          clear hr hz
          go_wp2_with fail
          refine HR'.out.mono ?_
          clear d0 d1 d2
          rintro e w6 ⟨rfl, hb⟩
          have BX6 := Lib.hid (BX5.out.later hb); have BU6 := Lib.hid (BU5.out.later hb); have HB6 := Lib.hid (HB5.out.tr hb (Nat.le_refl _))
          clear hb
          cases z with
          | false =>
            go_wp2_with fail
            go_ret
            exact ⟨rfl, HB6.out⟩
          | true =>
            have hlr := lright_any l la lc w6 (by have := HLN.out; omega) (HLK.out w6 HB6.out)
            obtain ⟨z, hz⟩ : ∃ z, (!decide (600 < Tp.sizes l) && Tp.rights l) = z := ⟨_, rfl⟩
            rw [hz, ← HLN.out] at hlr
            have HLR := Lib.hid hlr; have HZL := Lib.hid hz
            clear hlr hz
            go_wp2_with fail
            refine HLR.out.mono ?_
            rintro e w7 ⟨rfl, hb⟩
            have BX7 := Lib.hid (BX6.out.later hb); have BU7 := Lib.hid (BU6.out.later hb); have HB7 := Lib.hid (HB6.out.tr hb (Nat.le_refl _))
            clear hb
            cases z with
            | false =>
              go_wp2_with fail
              go_ret
              exact ⟨rfl, HB7.out⟩
            | true =>
              have hlr : Tp.rights l = true := by have h := HZL.out; rw [Bool.and_eq_true] at h; exact h.2
              have hts := small_600 HSS.out
              have hst : Tp.size t ≤ 600 := hts t (by simp)
              have hsu : Tp.size u ≤ 600 := hts u (by simp)
              have hls := small_600 HSE.out
              obtain ⟨f1, f2, f3⟩ := stat_facts false HZ.out hlr hls
              have f4 := stat_mat false HZ.out hlr hls
              have f5 : (statL (Tp.vars t []) l false (Tp.vars t []).length).length ≤ 600 := by
                have h1 : (statL (Tp.vars t []) l false (Tp.vars t []).length).length = (Tp.vars t []).length := by simp [statL]
                have := Tp.vlenC t []; simp only [List.length_nil] at this; omega
              have hsc := lstatic_any false t a cap l la lc w7 (by omega) BX7.out.ty HLM.out (fun x hx => by have := hls x hx; omega) (HLK.out w7 HB7.out)
              rw [tv_of BX7.out.says, ← HLN.out] at hsc
              obtain ⟨B, hB⟩ : ∃ B, statL (Tp.vars t []) l false (Tp.vars t []).length = B := ⟨_, rfl⟩
              rw [hB] at f1 f2 f3 f4 f5 hsc
              have HSC := Lib.hid hsc; have F1 := Lib.hid f1; have F2 := Lib.hid f2; have F3 := Lib.hid f3; have F4 := Lib.hid f4; have F5 := Lib.hid f5; have HST := Lib.hid hst; have HSU := Lib.hid hsu
              clear hsc f1 f2 f3 f4 f5 hlr hts hst hsu hls hB
              obtain ⟨c0, c1, c2⟩ := BX7.out.cells
              go_upto_region 3 with fail
              clear h20
              go_wp2_with fail
              refine HSC.out.mono ?_
              clear c0 c1 c2
              rintro e w8 ⟨v, bs, rfl, hrow, hbs, hb⟩
              obtain ⟨ra, rc, rfl⟩ := own_shapeT hrow.own
              obtain ⟨g1, g2, g3, g4⟩ := hrow.binds
              rw [hbs] at g4
              have hbl : bs.length = B.length := by rw [← hbs, List.length_map]
              rw [hbl] at g2 ⊢
              have BX8 := Lib.hid (BX7.out.later hb); have BU8 := Lib.hid (BU7.out.later hb); have HB8 := Lib.hid (HB7.out.tr hb (Nat.le_refl _)); have HG := Lib.hid g4; have HG2 := Lib.hid (show B.length ≤ maxLen by omega)
              clear hb hrow hbs g1 g2 g3 g4 hbl
              go_upto_region 4 with fail
              obtain ⟨c0, c1, c2⟩ := BX8.out.cells
              have hsb := subst_any B t k0 n0 m0 a cap ra rc w8 BX8.out.says BX8.out.ty HG.out (by have := F5.out; omega) (by have := HST.out; omega) (fun x hx => by have := (F2.out x hx).2.2; omega)
              have HSB := Lib.hid hsb; clear hsb
              go_wp2_with fail
              refine HSB.out.mono ?_
              clear c0 c1 c2
              rintro e w9 ⟨hb, hcase⟩
              obtain ⟨_, sa, sc, rfl, ht⟩ := hcase.resolve_right (fun h => by have h1 := h.1; rw [F1.out] at h1; cases h1)
              obtain ⟨y, hy⟩ : ∃ y, Tp.sub B t = y := ⟨_, rfl⟩
              rw [hy] at ht F3 F4 ⊢
              obtain ⟨yk, yn, ym, hvy⟩ := TV.mk y
              rw [tv_of hvy]
              obtain ⟨W9, hW9⟩ : ∃ W, w9.alloc (.cells #[.int .i64 yk, .int .i64 yn, .slice sa ym sc] 24) = W := ⟨_, rfl⟩
              obtain ⟨bs9, hb9⟩ := box_new hvy ht hW9
              have hd9 := hb.tr hb9 (Nat.le_refl _)
              have hry : Tp.right y = true := by rw [← hy]; exact Tp.sub_right (fun x hx => (F2.out x hx).1) t HZ.out
              have BX9 := Lib.hid (BX8.out.later hd9); have BU9 := Lib.hid (BU8.out.later hd9); have HB9 := Lib.hid (HB8.out.tr hd9 (Nat.le_refl _)); have BS9 := Lib.hid bs9; have HW9 := Lib.hid hW9; have HG9 := Lib.hid (HG.out.low hd9); have HRY := Lib.hid hry
              clear hb ht hcase bs9 hb9 hW9 hd9 hy hvy hry
              go_upto_region 5 with fail
              rw [HW9.out]
              obtain ⟨c0, c1, c2⟩ := BX9.out.cells
              obtain ⟨e0, e1, e2⟩ := BS9.out.cells
              have hma := match_mtc (w := W9) BX9.out.says BS9.out.says BX9.out.ty BS9.out.ty (by have := F3.out; have := HST.out; omega)
              rw [Tp.mtc_right HZ.out HRY.out, F4.out] at hma
              have HMA := Lib.hid hma; clear hma
              go_wp2_with fail
              refine HMA.out.mono ?_
              clear c0 c1 c2 e0 e1 e2
              rintro e w10 ⟨ma, mc, rfl, -, -, hba, hb⟩
              simp only [Option.getD_some, Option.isSome_some] at hba ⊢
              have BX10 := Lib.hid (BX9.out.later hb); have BU10 := Lib.hid (BU9.out.later hb); have HB10 := Lib.hid (HB9.out.tr hb (Nat.le_refl _)); have HG10 := Lib.hid (HG9.out.low hb)
              have hkb := kbinds_any B B ma ra mc rc w10 HG2.out HG2.out hba HG10.out
              rw [(bsame_iff B B).2 rfl] at hkb
              have HKB := Lib.hid hkb
              clear hkb hba hb
              go_upto_region 6 with fail
              go_wp2_with fail
              refine HKB.out.mono ?_
              rintro e w11 ⟨rfl, hb⟩
              have BX11 := Lib.hid (BX10.out.later hb); have BU11 := Lib.hid (BU10.out.later hb); have HB11 := Lib.hid (HB10.out.tr hb (Nat.le_refl _))
              clear hb
              go_upto_region 8 with fail
              obtain ⟨c0, c1, c2⟩ := BX11.out.cells
              obtain ⟨d0, d1, d2⟩ := BU11.out.cells
              have hma := match_mtc (w := w11) BX11.out.says BU11.out.says BX11.out.ty BU11.out.ty (by have := HSU.out; have := HST.out; omega)
              rw [Tp.mtc_right HZ.out HZ'.out] at hma
              have HMB := Lib.hid hma; clear hma
              go_wp2_with fail
              refine HMB.out.mono ?_
              clear c0 c1 c2 d0 d1 d2
              rintro e w12 ⟨na, nc, rfl, hn1, hn2, hba, hb⟩
              have BX12 := Lib.hid (BX11.out.later hb); have BU12 := Lib.hid (BU11.out.later hb); have HB12 := Lib.hid (HB11.out.tr hb (Nat.le_refl _))
              clear hb
              cases hm : Tp.mat t u [] with
              | none =>
                simp only [Option.getD_none, Option.isSome_none, List.length_nil]
                clear hn1 hn2 hba hm
                go_wp2_with (go_at_call 22; (with_reducible refine (wakes11_any _).mono ?_); rintro e w13 ⟨rfl, hb⟩; have HB13 := Lib.hid (HB12.out.tr hb (Nat.le_refl _)); clear hb)
                go_ret
                exact ⟨rfl, HB13.out⟩
              | some N =>
                rw [hm] at hn1 hba
                simp only [Option.getD_some, Option.isSome_some] at hn1 hba ⊢
                obtain ⟨p1, p2, p3, p4⟩ := mat_facts HZ.out HZ'.out hm
                have p5 : N.length ≤ 600 := by
                  have := Tp.vlenC t []; simp only [List.length_nil] at this; have := HST.out; omega
                obtain ⟨q, hq⟩ : ∃ q, N.length = q := ⟨_, rfl⟩
                have hsb := subst_any N t k0 n0 m0 a cap na nc w12 BX12.out.says BX12.out.ty hba (by omega) (by have := HST.out; omega) (fun x hx => by have := (p3 x hx).2.2; have := HSU.out; omega)
                rw [hq] at hsb p5 ⊢
                have HSN := Lib.hid hsb; have P1 := Lib.hid p1; have P2 := Lib.hid p2; have P3 := Lib.hid p3; have P5 := Lib.hid p5; have HQ := Lib.hid hq; have HBN := Lib.hid hba
                clear hsb p1 p2 p3 p4 p5 hq hn1 hn2 hba hm
                go_upto_region 11 with fail
                obtain ⟨c0, c1, c2⟩ := BX12.out.cells
                go_wp2_with fail
                refine HSN.out.mono ?_
                clear c0 c1 c2
                rintro e w13 ⟨hb, hcase⟩
                obtain ⟨_, xa, xc, rfl, ht⟩ := hcase.resolve_right (fun h => by have h1 := h.1; rw [P1.out] at h1; cases h1)
                rw [P2.out] at ht ⊢
                rw [tv_of BU12.out.says]
                obtain ⟨W13, hW13⟩ : ∃ W, w13.alloc (.cells #[.int .i64 k9, .int .i64 n9, .slice xa m9 xc] 24) = W := ⟨_, rfl⟩
                obtain ⟨bz, hbz⟩ := box_new BU12.out.says ht hW13
                have hd13 := hb.tr hbz (Nat.le_refl _)
                have BU13 := Lib.hid (BU12.out.later hd13); have HB13 := Lib.hid (HB12.out.tr hd13 (Nat.le_refl _)); have BZ13 := Lib.hid bz; have HW13 := Lib.hid hW13; have HBN13 := Lib.hid (HBN.out.low hd13)
                clear hb ht hcase bz hbz hW13 hd13
                go_upto_region 12 with fail
                rw [HW13.out]
                go_wp2_with fail
                go_loopg [16] q (fun gk i wr => ∃ k : Nat, k ≤ q ∧ i = .int .i64 (k : Int) ∧ Below W13.heap.size W13 wr ∧ gk = q - k)
                case atStart => exact ⟨0, Nat.zero_le _, rfl, Below.refl _ _, rfl⟩
                case round =>
                  obtain ⟨k, hkm, rfl, hbw, rfl⟩ := hrel
                  have HBW := Lib.hid hbw
                  clear hbw
                  by_cases hlt : k < q
                  · have hkq : k < N.length := by rw [HQ.out]; exact hlt
                    obtain ⟨bb, bo, za, zc, rfl, hbb, hzt, z0, z1, z2, z3⟩ := (HBN13.out.low HBW.out) k hkq
                    have hmem := List.getElem_mem hkq
                    obtain ⟨x, hx⟩ : ∃ x, N[k] = x := ⟨_, rfl⟩
                    rw [hx] at hzt z0 z1 z2 z3 hmem
                    obtain ⟨xk, xn, xm, hvx⟩ := TV.mk x.2
                    rw [hvx.1] at z1; rw [hvx.2.1] at z2; rw [hvx.2.2] at z3
                    have hwo := wo_any (w := wr) 5 hvx hzt
                    rw [(P3.out x hmem).2.1] at hwo
                    have HWO := Lib.hid hwo
                    obtain ⟨i1, i2⟩ := pt_int hlt
                    clear hzt hbb hmem hx hvx hwo
                    go_wp2_with (go_at_call 28; (with_reducible refine HWO.out.mono ?_); clear z0 z1 z2 z3; rintro e w14 ⟨rfl, hb⟩; have HB14 := Lib.hid (HBW.out.tr hb (Nat.le_refl _)); clear hb)
                    go_roundg (q - (k + 1))
                    case measure => omega
                    case rel => exact ⟨k + 1, hlt, wrap_k4 (by have := P5.out; omega), HB14.out, rfl⟩
                  · obtain rfl : k = q := by omega
                    go_upto_region 17 with fail
                    have BU14 := Lib.hid (BU13.out.later HBW.out); have BZ14 := Lib.hid (BZ13.out.later HBW.out)
                    obtain ⟨c0, c1, c2⟩ := BU14.out.cells
                    obtain ⟨d0, d1, d2⟩ := BZ14.out.cells
                    have hks := ks_any (w := wr) BZ14.out.says BU14.out.says BZ14.out.ty BU14.out.ty
                    rw [Tp.same_refl] at hks
                    have HKS := Lib.hid hks; clear hks
                    go_wp2_with (first | (go_at_call 17; (refine HKS.out.mono ?_); clear c0 c1 c2 d0 d1 d2; rintro e w15 ⟨rfl, hb⟩; have HB15 := Lib.hid (HBW.out.tr hb (Nat.le_refl _)); clear hb) | (go_at_call 22; (with_reducible refine (wakes11_any _).mono ?_); rintro e w16 ⟨rfl, hb⟩; have HB16 := Lib.hid (HB15.out.tr hb (Nat.le_refl _)); clear hb))
                    go_ret
                    exact ⟨rfl, HB13.out.tr HB16.out (Nat.le_refl _)⟩
end Go.Proofs.Ytgambiohchcfdaa

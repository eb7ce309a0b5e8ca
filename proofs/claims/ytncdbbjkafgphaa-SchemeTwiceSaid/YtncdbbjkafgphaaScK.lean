/- Plain facts for the laws that put static types for variables. The page's RightBinds. The laws' heavyBinds. A whole row of binds behind another one. A box of zeros that is written late; a row of binds of the call's own over types that lay before. Plain facts for the law SchemeUnder. -/
import Derived.Test.YtncdbbjkafgphaaScW
import Derived.Test.YtncdbbjkafgphaaTrB
import Derived.Test.YtncdbbjkafgphaaScA
import Derived.Test.YtncdbbjkafgphaaAbA
import Derived.Deep.RegionLaw
import Derived.Deep.DeepCutAuto
import Derived.Deep.CutRange
import Derived.Test.YtncdbbjkafgphaaRpE
namespace Go.Proofs.Ytncdbbjkafgphaa
open Go Go.RowKit
open Tp (T Bd)
mutual
theorem pl_good (c : Bool) : ∀ t : T, Tp.right t = true → Tp.right (Tp.pl c t) = true ∧ Tp.without 5 (Tp.pl c t) = true
  | .mk k n l, h => by
    by_cases h5 : k = 5
    · rw [Tp.pl_dyn (t := .mk k n l) h5]
      exact ⟨by simp [Tp.right, Tp.rights, Tp.nodeRight, Tp.arity], by simp [Tp.without, Tp.withouts]⟩
    · by_cases h6 : k = 6 ∧ c = true
      · rw [Tp.pl_var (t := .mk k n l) h6.1 h6.2]
        exact ⟨by simp [Tp.right, Tp.rights, Tp.nodeRight, Tp.arity], by simp [Tp.without, Tp.withouts]⟩
      · rw [Tp.pl_node (t := .mk k n l) h5 h6]
        simp only [T.kind, T.num, T.kids]
        simp only [Tp.right, Bool.and_eq_true] at h
        obtain ⟨g1, g2⟩ := pls_good c l h.2
        rw [Tp.pls_map] at g1 g2
        refine ⟨?_, ?_⟩
        · simp only [Tp.right, List.length_map, Bool.and_eq_true]
          exact ⟨h.1, g1⟩
        · simp [Tp.without, h5, g2]
theorem pls_good (c : Bool) : ∀ l : List T, Tp.rights l = true → Tp.rights (Tp.pls c l) = true ∧ Tp.withouts 5 (Tp.pls c l) = true
  | [], _ => by simp [Tp.pls, Tp.rights, Tp.withouts]
  | t :: r, h => by
    obtain ⟨g1, g2⟩ := Tp.rights_cons h
    obtain ⟨a1, a2⟩ := pl_good c t g1
    obtain ⟨b1, b2⟩ := pls_good c r g2
    exact ⟨by simp [Tp.pls, Tp.rights, a1, b1], by simp [Tp.pls, Tp.withouts, a2, b2]⟩
end
theorem yAt_good {l : List T} (c : Bool) (i : Nat) (h : Tp.rights l = true) : Tp.right (yAt l c i) = true ∧ Tp.without 5 (yAt l c i) = true := by
  unfold yAt
  split
  · exact ⟨by simp [Tp.right, Tp.rights, Tp.nodeRight, Tp.arity], by simp [Tp.without, Tp.withouts]⟩
  · rename_i hl
    have hi : i % l.length < l.length := Nat.mod_lt _ (List.length_pos_iff.2 hl)
    rw [List.getD_eq_getElem?_getD, List.getElem?_eq_getElem hi]
    exact pl_good c _ (rights_mem' l h _ (List.getElem_mem hi))
theorem yAt_600 {l : List T} (c : Bool) (i : Nat) (h : ∀ t ∈ l, Tp.size t ≤ 600) : Tp.size (yAt l c i) ≤ 600 := by
  unfold yAt
  split
  · simp [Tp.size, Tp.sizes]
  · rename_i hl
    have hi : i % l.length < l.length := Nat.mod_lt _ (List.length_pos_iff.2 hl)
    rw [List.getD_eq_getElem?_getD, List.getElem?_eq_getElem hi]
    exact Nat.le_trans (Tp.pl_size c _) (h _ (List.getElem_mem hi))
theorem statL_mem {vs : List Int} {l : List T} {c : Bool} {b : Bd} (h : b ∈ statL vs l c vs.length) : b.1 ∈ vs ∧ ∃ i, b.2 = yAt l c i := by
  unfold statL at h
  rw [List.mem_map] at h
  obtain ⟨i, hi, rfl⟩ := h
  have hi' : i < vs.length := by simpa using hi
  refine ⟨?_, i, rfl⟩
  show vs.getD i 0 ∈ vs
  rw [List.getD_eq_getElem?_getD, List.getElem?_eq_getElem hi']
  exact List.getElem_mem hi'
mutual
theorem sub_mul {L : List Bd} {M : Nat} (hM : 1 ≤ M) (h : ∀ n v, Tp.look L n = some v → Tp.size v ≤ M) : ∀ t : T, Tp.right t = true → Tp.size (Tp.sub L t) ≤ Tp.size t * M
  | .mk k n l, hr => by
    have hp := Tp.size_pos (.mk k n l)
    by_cases hk : k = 6
    · subst hk
      obtain rfl := Tp.right_leaf hr
      cases hl : Tp.look L n with
      | none =>
        simp only [Tp.sub, if_true, hl, Option.getD_none]
        exact Nat.le_mul_of_pos_right _ hM
      | some v =>
        rw [Tp.sub_var hl]
        have := h n v hl
        simp only [Tp.size, Tp.sizes]
        omega
    · rw [Tp.sub_node hk]
      have hq := subs_mul hM h l (Tp.right_node hr).2.1
      simp only [Tp.size]
      rw [Nat.add_mul]; omega
theorem subs_mul {L : List Bd} {M : Nat} (hM : 1 ≤ M) (h : ∀ n v, Tp.look L n = some v → Tp.size v ≤ M) : ∀ l : List T, Tp.rights l = true → Tp.sizes (Tp.subs L l) ≤ Tp.sizes l * M
  | [], _ => by simp [Tp.subs, Tp.sizes]
  | t :: r, hr => by
    obtain ⟨g1, g2⟩ := Tp.rights_cons hr
    have h1 := sub_mul hM h t g1
    have h2 := subs_mul hM h r g2
    simp only [Tp.subs, Tp.sizes]
    rw [Nat.add_mul]; omega
end
mutual
theorem sub_occ {L : List Bd} {n : Int} {v : T} (hl : Tp.look L n = some v) : ∀ t : T, Tp.right t = true → Tp.occ n t = true → Tp.size v ≤ Tp.size (Tp.sub L t)
  | .mk k m l, hr, h => by
    by_cases hk : k = 6
    · subst hk
      obtain rfl := Tp.right_leaf hr
      simp [Tp.occ, Tp.occs] at h
      subst h
      rw [Tp.sub_var hl]
      exact Nat.le_refl _
    · rw [Tp.sub_node hk]
      simp [Tp.occ, hk] at h
      have := subs_occ hl l (Tp.right_node hr).2.1 h
      simp only [Tp.size]; omega
theorem subs_occ {L : List Bd} {n : Int} {v : T} (hl : Tp.look L n = some v) : ∀ l : List T, Tp.rights l = true → Tp.occs n l = true → Tp.size v ≤ Tp.sizes (Tp.subs L l)
  | [], _, h => by simp [Tp.occs] at h
  | t :: r, hr, h => by
    obtain ⟨g1, g2⟩ := Tp.rights_cons hr
    simp only [Tp.occs, Bool.or_eq_true] at h
    simp only [Tp.subs, Tp.sizes]
    rcases h with h | h
    · have := sub_occ hl t g1 h; omega
    · have := subs_occ hl r g2 h; omega
end
/-- Binds for just the variables of a right type, by right types, are right. -/
theorem sok_vars {t : T} {L : List Bd} (ht : Tp.right t = true) (hk : ∀ b ∈ L, b.1 ∈ Tp.vars t []) (hr : ∀ b ∈ L, Tp.right b.2 = true) : sokL t L = true := by
  unfold sokL
  rw [ht, Bool.true_and, List.all_eq_true]
  intro b hb
  have h1 := hk b hb
  rw [Tp.mem_vars] at h1
  obtain ⟨r1, r2⟩ := occ_range t b.1 ht (h1.resolve_left (by simp))
  unfold Tp.bdRight
  rw [hr b hb]
  simp [r1, r2]
/-- What the law puts for the variables. -/
theorem stat_facts {t : T} {l : List T} (c : Bool) (ht : Tp.right t = true) (hl : Tp.rights l = true) (hs : ∀ x ∈ l, Tp.size x ≤ 600) :
    sokL t (statL (Tp.vars t []) l c (Tp.vars t []).length) = true ∧ (∀ b ∈ statL (Tp.vars t []) l c (Tp.vars t []).length, Tp.right b.2 = true ∧ Tp.without 5 b.2 = true ∧ Tp.size b.2 ≤ 600) ∧ Tp.size (Tp.sub (statL (Tp.vars t []) l c (Tp.vars t []).length) t) ≤ Tp.size t * 600 := by
  have key : ∀ b ∈ statL (Tp.vars t []) l c (Tp.vars t []).length, Tp.right b.2 = true ∧ Tp.without 5 b.2 = true ∧ Tp.size b.2 ≤ 600 := fun b hb => by
    obtain ⟨_, i, hi⟩ := statL_mem hb
    rw [hi]
    exact ⟨(yAt_good c i hl).1, (yAt_good c i hl).2, yAt_600 c i hs⟩
  exact ⟨sok_vars ht (fun b hb => (statL_mem hb).1) (fun b hb => (key b hb).1), key, sub_mul (by omega) (fun n v hv => (key _ (Tp.look_mem hv)).2.2) t ht⟩
theorem stat_mat {t : T} {l : List T} (c : Bool) (ht : Tp.right t = true) (hl : Tp.rights l = true) (hs : ∀ x ∈ l, Tp.size x ≤ 600) : Tp.mat t (Tp.sub (statL (Tp.vars t []) l c (Tp.vars t []).length) t) [] = some (statL (Tp.vars t []) l c (Tp.vars t []).length) :=
  Tp.mat_put ht (fun b hb => ⟨((stat_facts c ht hl hs).2.1 b hb).1, ((stat_facts c ht hl hs).2.1 b hb).2.1⟩) (statL_keys _ _ _)
/-- What Match finds, put for the variables. -/
theorem mat_facts {t u : T} {N : List Bd} (ht : Tp.right t = true) (hu : Tp.right u = true) (h : Tp.mat t u [] = some N) : sokL t N = true ∧ Tp.sub N t = u ∧ (∀ b ∈ N, Tp.right b.2 = true ∧ Tp.without 5 b.2 = true ∧ Tp.size b.2 ≤ Tp.size u) ∧ N.length = (Tp.vars t []).length := by
  obtain ⟨⟨M, h1, h2⟩, h3, h4⟩ := Tp.mat_sound t u [] N ht hu h
  rw [List.nil_append] at h1
  subst h1
  have hk : N.map Prod.fst = Tp.vars t [] := h3
  have hmem : ∀ b ∈ N, b.1 ∈ Tp.vars t [] := fun b hb => by rw [← hk]; exact List.mem_map_of_mem hb
  refine ⟨sok_vars ht hmem (fun b hb => (h2 b hb).2), h4, fun b hb => ⟨(h2 b hb).2, (h2 b hb).1, ?_⟩, by rw [← hk, List.length_map]⟩
  have hocc : Tp.occ b.1 t = true := ((Tp.mem_vars t [] b.1).1 (hmem b hb)).resolve_left (by simp)
  have hnd : (N.map Prod.fst).Nodup := by rw [hk]; exact Tp.vars_nodup t [] List.nodup_nil
  have hlook : Tp.look N b.1 = some b.2 := by
    have : ∀ (L : List Bd), (L.map Prod.fst).Nodup → ∀ b ∈ L, Tp.look L b.1 = some b.2 := by
      intro L
      induction L with
      | nil => intro _ b h; cases h
      | cons x r ih =>
        intro hn b hb
        rw [List.map_cons, List.nodup_cons] at hn
        simp only [Tp.look]
        rcases List.mem_cons.1 hb with rfl | hb
        · rw [if_pos rfl]
        · rw [if_neg (fun e => hn.1 (by rw [e]; exact List.mem_map_of_mem hb))]
          exact ih hn.2 b hb
    exact this N hnd b hb
  rw [← h4]
  exact sub_occ hlook t ht hocc
end Go.Proofs.Ytncdbbjkafgphaa
namespace Go.Proofs.Ytncdbbjkafgphaa
open Go Go.RowKit
open Tp (T Bd)
theorem all_more {L : List Bd} {k : Nat} (hk : k < L.length) (h : (L.take k).all Tp.bdRight = true) (hb : Tp.bdRight L[k] = true) : (L.take (k + 1)).all Tp.bdRight = true := by
  rw [take_more hk, List.all_append, h]
  simp [hb]
theorem all_bad {L : List Bd} {k : Nat} (hk : k < L.length) (hb : Tp.bdRight L[k] = false) : L.all Tp.bdRight = false := by
  rw [List.all_eq_false]
  exact ⟨L[k], List.getElem_mem hk, by rw [hb]; simp⟩
set_option maxRecDepth 100000 in
set_option maxHeartbeats 8000000 in
theorem rbinds_any (L : List Bd) (la : Option Addr) (lc : Nat) (w : World) (hL : BindsAt (LT w.heap.size) w L la) (hll : L.length ≤ maxLen) :
    Calls Try.prog 19 #[.slice la L.length lc] w fun e w' => e = .returned (.bool (L.all Tp.bdRight)) ∧ Below w.heap.size w w' := by
  obtain ⟨m, hm⟩ : ∃ m, L.length = m := ⟨_, rfl⟩
  rw [hm] at hll ⊢
  have HL := Lib.hid hL; have HM := Lib.hid hm; have HLL := Lib.hid hll
  clear hL hll
  go_enter Try.func19, Try.ntmps19
  go_wp2_with fail
  go_loopg [3] m (fun gk i wr => ∃ k : Nat, k ≤ m ∧ i = .int .i64 (k : Int) ∧ Below w.heap.size w wr ∧ (L.take k).all Tp.bdRight = true ∧ gk = m - k)
  case atStart => exact ⟨0, Nat.zero_le _, rfl, Below.refl _ _, by simp, rfl⟩
  case round =>
    obtain ⟨k, hkm, rfl, hbw, hal, rfl⟩ := hrel
    have HB := Lib.hid hbw; have HAL := Lib.hid hal
    clear hbw hal
    by_cases hlt : k < m
    · have hkl : k < L.length := by rw [hm]; exact hlt
      obtain ⟨b, o, xa, xc, rfl, hbn, htx, q0, q1, q2, q3⟩ := (HL.out.low HB.out) k hkl
      obtain ⟨⟨bn, bt⟩, hbk⟩ : ∃ b, L[k] = b := ⟨_, rfl⟩
      obtain ⟨bk, bN, bm, hvb⟩ := TV.mk bt
      rw [hbk] at htx q0 q1 q2 q3
      dsimp only at htx q0 q1 q2 q3
      rw [hvb.1] at q1; rw [hvb.2.1] at q2; rw [hvb.2.2] at q3
      obtain ⟨i1, i2⟩ := pt_int hlt
      have hr := rright_any (Tp.size bt) bt xa xc wr (Nat.le_refl _) htx
      rw [tv_of hvb] at hr
      obtain ⟨z, hz⟩ : ∃ z, Tp.right bt = z := ⟨_, rfl⟩
      rw [hz] at hr
      have HBK := Lib.hid hbk; have HKL := Lib.hid hkl; have HZ := Lib.hid hz; have HR := Lib.hid hr
      clear htx hbk hvb hbn hz hr
      by_cases h0 : bn < 0
      · have g0 : decide (bn < 0) = true := by simp [h0]
        have HBAD := Lib.hid (all_bad hkl (by rw [HBK.out]; unfold Tp.bdRight; dsimp only; rw [show decide (0 ≤ bn) = false from by simp; omega]; rfl))
        go_wp2_with fail
        go_ret
        exact ⟨ret_boolT HBAD.out.symm, HB.out⟩
      · have g0 : decide (bn < 0) = false := by simp [h0]
        by_cases h1 : 1048576 < bn
        · have g1 : decide (1048576 < bn) = true := by simp [h1]
          have HBAD := Lib.hid (all_bad hkl (by rw [HBK.out]; unfold Tp.bdRight; dsimp only; rw [show decide (bn ≤ 1048576) = false from by simp; omega]; simp))
          go_wp2_with fail
          go_ret
          exact ⟨ret_boolT HBAD.out.symm, HB.out⟩
        · have g1 : decide (1048576 < bn) = false := by simp [h1]
          have HBR := Lib.hid (show Tp.bdRight (L[k]'hkl) = z by rw [HBK.out]; unfold Tp.bdRight; dsimp only; rw [HZ.out, show decide (0 ≤ bn) = true from by simp; omega, show decide (bn ≤ 1048576) = true from by simp; omega]; simp)
          cases z with
          | false =>
            go_wp2_with (go_at_call 18; (with_reducible refine HR.out.mono ?_); clear q0 q1 q2 q3; rintro e w5 ⟨rfl, hb⟩; have HB5 := Lib.hid (HB.out.tr hb (Nat.le_refl _)); clear hb)
            go_ret
            exact ⟨ret_boolT (all_bad hkl HBR.out).symm, HB5.out⟩
          | true =>
            go_wp2_with (go_at_call 18; (with_reducible refine HR.out.mono ?_); clear q0 q1 q2 q3; rintro e w5 ⟨rfl, hb⟩; have HB5 := Lib.hid (HB.out.tr hb (Nat.le_refl _)); clear hb)
            go_roundg (m - (k + 1))
            case measure => omega
            case rel => exact ⟨k + 1, hlt, (by rw [show wrap64 ((k : Int) + 1) = ((k + 1 : Nat) : Int) from by unfold wrap64; have := HLL.out; unfold maxLen at this; omega]), HB5.out, all_more hkl HAL.out HBR.out, rfl⟩
    · obtain rfl : k = m := by omega
      have hal := HAL.out
      rw [← hm, List.take_length] at hal
      have HAL2 := Lib.hid hal
      clear hal
      go_wp2_with fail
      go_ret
      exact ⟨ret_boolT HAL2.out.symm, HB.out⟩
end Go.Proofs.Ytncdbbjkafgphaa
namespace Go.Proofs.Ytncdbbjkafgphaa
open Go Go.RowKit
open Tp (T Bd)
def hvB (b : Bd) : Bool := decide (600 < Tp.sizes [b.2]) || Tp.deep b.2 60
def hvBs (L : List Bd) : Bool := decide (40 < L.length) || L.any hvB
theorem any_more {L : List Bd} {k : Nat} (hk : k < L.length) (h : (L.take k).any hvB = false) (hb : hvB L[k] = false) : (L.take (k + 1)).any hvB = false := by
  rw [take_more hk, List.any_append, h]
  simp [hb]
theorem any_bad {L : List Bd} {k : Nat} (hk : k < L.length) (hb : hvB L[k] = true) : hvBs L = true := by
  unfold hvBs
  rw [Bool.or_eq_true, List.any_eq_true]
  exact .inr ⟨L[k], List.getElem_mem hk, hb⟩
set_option maxRecDepth 100000 in
set_option maxHeartbeats 8000000 in
theorem hbinds_any (L : List Bd) (la : Option Addr) (lc : Nat) (w : World) (hL : BindsAt (LT w.heap.size) w L la) (hll : L.length ≤ maxLen) :
    Calls Try.prog 11 #[.slice la L.length lc] w fun e w' => e = .returned (.bool (hvBs L)) ∧ Below w.heap.size w w' := by
  obtain ⟨m, hm⟩ : ∃ m, L.length = m := ⟨_, rfl⟩
  rw [hm] at hll ⊢
  have HL := Lib.hid hL; have HM := Lib.hid hm; have HLL := Lib.hid hll
  clear hL hll
  go_enter Try.func11, Try.ntmps11
  by_cases h40 : 40 < m
  · have g40 : (40 : Int) < (m : Int) := by omega
    have HBAD := Lib.hid (show hvBs L = true by unfold hvBs; rw [hm, decide_eq_true h40]; rfl)
    clear h40
    go_wp2_with fail
    go_ret
    exact ⟨ret_boolT HBAD.out.symm, Below.refl _ _⟩
  · have g40 : ¬ (40 : Int) < (m : Int) := by omega
    have H40 := Lib.hid h40
    clear h40
    go_wp2_with fail
    clear g40
    go_loopg [3] m (fun gk i wr => ∃ k : Nat, k ≤ m ∧ i = .int .i64 (k : Int) ∧ Below w.heap.size w wr ∧ (L.take k).any hvB = false ∧ gk = m - k)
    case atStart => exact ⟨0, Nat.zero_le _, rfl, Below.refl _ _, by simp, rfl⟩
    case round =>
      obtain ⟨k, hkm, rfl, hbw, hal, rfl⟩ := hrel
      have HB := Lib.hid hbw; have HAL := Lib.hid hal
      clear hbw hal
      by_cases hlt : k < m
      · have hkl : k < L.length := by rw [hm]; exact hlt
        obtain ⟨b, o, xa, xc, rfl, hbn, htx, q0, q1, q2, q3⟩ := (HL.out.low HB.out) k hkl
        obtain ⟨⟨bn, q⟩, hbk⟩ : ∃ b, L[k] = b := ⟨_, rfl⟩
        obtain ⟨k0, n0, m0, hv⟩ := TV.mk q
        rw [hbk] at htx q0 q1 q2 q3
        dsimp only at htx q0 q1 q2 q3
        rw [hv.1] at q1; rw [hv.2.1] at q2; rw [hv.2.2] at q3
        obtain ⟨i1, i2⟩ := pt_int hlt
        have hrow := row_one htx hv.1 hv.2.1 hv.2.2
        obtain ⟨W1, hW1⟩ : ∃ W, wr.alloc (.cells #[.int .i64 k0, .int .i64 n0, .slice xa m0 xc] 24) = W := ⟨_, rfl⟩
        have hb1 : Below wr.heap.size wr W1 := by rw [← hW1]; exact (Below.refl _ _).alloc (Nat.le_refl _) _
        rw [hW1] at hrow
        have hhe := heavy_any [q] (some ⟨wr.heap.size, 0, none⟩) 1 W1 (by simp) hrow
        have hde := fun x (h : Below W1.heap.size W1 x) => rdeep_any 60 60 q xa xc x rfl (by omega) (ty_later htx (hb1.tr h (Nat.le_refl _)))
        have hcx := fun x (h : Below W1.heap.size W1 x) => (⟨((hb1.tr h (Nat.le_refl _)).cell (p := ⟨b, o + k * 4 + 1, none⟩) hbn).trans q1, ((hb1.tr h (Nat.le_refl _)).cell (p := ⟨b, o + k * 4 + 2, none⟩) hbn).trans q2, ((hb1.tr h (Nat.le_refl _)).cell (p := ⟨b, o + k * 4 + 3, none⟩) hbn).trans q3⟩ : _ ∧ _ ∧ _)
        obtain ⟨hvy, hhv⟩ : ∃ z, decide (600 < Tp.sizes [q]) = z := ⟨_, rfl⟩
        obtain ⟨dp, hdp⟩ : ∃ z, Tp.deep q 60 = z := ⟨_, rfl⟩
        have hhb : hvB (L[k]'hkl) = (hvy || dp) := by rw [hbk]; unfold hvB; rw [hhv, hdp]
        rw [hhv] at hhe
        rw [hdp] at hde
        rw [tv_of hv] at hde
        have HHE := Lib.hid hhe; have HDE := Lib.hid hde; have HCX := Lib.hid hcx; have HHB := Lib.hid hhb; have HB1 := Lib.hid (HB.out.tr hb1 (Nat.le_refl _)); have HW1 := Lib.hid hW1
        clear hhe hde hcx hhb hb1 hW1 hrow htx hv hhv hdp hbk
        cases hvy with
        | true =>
          go_wp2_with (go_at_call 34; rw [HW1.out]; (refine HHE.out.mono ?_); clear q0 q1 q2 q3; rintro e w2 ⟨rfl, hb2⟩)
          go_ret
          exact ⟨ret_boolT (any_bad hkl HHB.out).symm, HB1.out.tr hb2 (Nat.le_refl _)⟩
        | false =>
          cases dp with
          | true =>
            go_wp2_with (first | (go_at_call 34; rw [HW1.out]; (refine HHE.out.mono ?_); clear q0 q1 q2 q3; rintro e w2 ⟨rfl, hb2⟩; have HB2 := Lib.hid hb2; clear hb2; obtain ⟨q1, q2, q3⟩ := HCX.out _ HB2.out) | (go_at_call 35; (refine (HDE.out _ HB2.out).mono ?_); clear q1 q2 q3; rintro e w3 ⟨rfl, hb3⟩))
            go_ret
            exact ⟨ret_boolT (any_bad hkl HHB.out).symm, (HB1.out.tr HB2.out (Nat.le_refl _)).tr hb3 (Nat.le_refl _)⟩
          | false =>
            go_wp2_with (first | (go_at_call 34; rw [HW1.out]; (refine HHE.out.mono ?_); clear q0 q1 q2 q3; rintro e w2 ⟨rfl, hb2⟩; have HB2 := Lib.hid hb2; clear hb2; obtain ⟨q1, q2, q3⟩ := HCX.out _ HB2.out) | (go_at_call 35; (refine (HDE.out _ HB2.out).mono ?_); clear q1 q2 q3; rintro e w3 ⟨rfl, hb3⟩))
            go_roundg (m - (k + 1))
            case measure => omega
            case rel => exact ⟨k + 1, hlt, wrap_k4 (by have := H40.out; omega), (HB1.out.tr HB2.out (Nat.le_refl _)).tr hb3 (Nat.le_refl _), any_more hkl HAL.out HHB.out, rfl⟩
      · obtain rfl : k = m := by omega
        have hal := HAL.out
        rw [← hm, List.take_length] at hal
        have HAL2 := Lib.hid (show hvBs L = false by unfold hvBs; rw [hal, hm, decide_eq_false H40.out]; rfl)
        clear hal
        go_wp2_with fail
        go_ret
        exact ⟨ret_boolT HAL2.out.symm, HB.out⟩
end Go.Proofs.Ytncdbbjkafgphaa
namespace Go.Proofs.Ytncdbbjkafgphaa
open Go Go.RowKit
open Tp (T Bd)
theorem run_append_zero {P : Program} {w : World} (base : Nat) (t ty e : TypeId) (i : TypeInfo) (size : Nat) (ht : P.underlying t = some (.slice e)) (hi : P.info? e = some i)
    (v : Value) (n c : Nat) (a : Option Addr) (xs : List Value) (hown : w.ownsRow base e size v n xs) : (Builtin.append_ #[t, t] ty #[v, .slice a 0 c]).run P w = .ok v w := by
  cases a with
  | none => exact run_append_none' base t ty e i size ht hi v n c xs hown
  | some ad =>
    have hf0 := fun w' => run_firstCells_some (P := P) (w := w') i.size 0 ad 0 c [] (by simp) (fun j u h => by simp at h)
    rcases hown.2 with ⟨rfl, rfl⟩ | ⟨g, cap, cur, rfl, _, _, hnc, _⟩
    · simp [Builtin.append_, run_underlying ht, sizeOf, typeInfo, hi, Builtin.lenOf]
      rw [hf0]; rfl
    · simp [Builtin.append_, run_underlying ht, sizeOf, typeInfo, hi, Builtin.lenOf, hnc, storeCells, hf0, Result.andThen]
/-- The row that is handed in, entry by entry. -/
theorem binds_ke {n : Nat} {w : World} : ∀ (L : List Bd) (a : Option Addr), BindsAt (LT n) w L a → ∃ es : List BKe, es.map (fun e => ((e.n, e.t) : Bd)) = L ∧ (∀ e ∈ es, TyAt (LT n) w e.t e.a e.cap) ∧
    (L ≠ [] → ∃ b o, a = some ⟨b, o, none⟩ ∧ b < n ∧ ∀ j u, (bRow es)[j]? = some u → w.cell? ⟨b, o + j, none⟩ = some u)
  | [], _, _ => ⟨[], rfl, fun _ h => (by cases h), fun h => absurd rfl h⟩
  | p :: r, a, h => by
    obtain ⟨b, o, xa, xc, rfl, hb, ht, c0, c1, c2, c3⟩ := h 0 (by simp)
    have hr : BindsAt (LT n) w r (some ⟨b, o + 4, none⟩) := fun i hi => by
      obtain ⟨b', o', xa', xc', e, hb', ht', d0, d1, d2, d3⟩ := h (i + 1) (by simpa using hi)
      injection e with e
      injection e with e1 e2
      subst e1 e2
      simp only [List.getElem_cons_succ] at ht' d0 d1 d2 d3
      refine ⟨b, o + 4, xa', xc', rfl, hb', ht', ?_, ?_, ?_, ?_⟩
      · rw [show o + 4 + i * 4 = o + (i + 1) * 4 from by omega]; exact d0
      · rw [show o + 4 + i * 4 + 1 = o + (i + 1) * 4 + 1 from by omega]; exact d1
      · rw [show o + 4 + i * 4 + 2 = o + (i + 1) * 4 + 2 from by omega]; exact d2
      · rw [show o + 4 + i * 4 + 3 = o + (i + 1) * 4 + 3 from by omega]; exact d3
    obtain ⟨es, h1, h2, h3⟩ := binds_ke r _ hr
    simp only [List.getElem_cons_zero, Nat.zero_mul, Nat.add_zero] at ht c0 c1 c2 c3
    refine ⟨⟨p.1, p.2, xa, xc⟩ :: es, by simp [h1], fun e he => ?_, fun _ => ⟨b, o, rfl, hb, fun j u hu => ?_⟩⟩
    · rcases List.mem_cons.1 he with rfl | he
      · exact ht
      · exact h2 e he
    · have e : bRow (⟨p.1, p.2, xa, xc⟩ :: es) = bkCells ⟨p.1, p.2, xa, xc⟩ ++ bRow es := by simp [bRow]
      rw [e] at hu
      by_cases hj : j < 4
      · rw [List.getElem?_append_left (by simp [bkCells]; omega)] at hu
        match j, hj with
        | 0, _ => injection hu with hu; rw [← hu]; exact c0
        | 1, _ => injection hu with hu; rw [← hu]; exact c1
        | 2, _ => injection hu with hu; rw [← hu]; exact c2
        | 3, _ => injection hu with hu; rw [← hu]; exact c3
      · rw [List.getElem?_append_right (by simp [bkCells]; omega)] at hu
        have hr0 : r ≠ [] := fun e0 => by
          subst e0
          have : es = [] := by simpa using h1
          subst this
          simp [bRow] at hu
        obtain ⟨b', o', e', _, h4⟩ := h3 hr0
        injection e' with e'
        injection e' with e1 e2
        subst e1 e2
        have := h4 _ _ hu
        rw [show o + 4 + (j - (bkCells ⟨p.1, p.2, xa, xc⟩).length) = o + j from by simp [bkCells]; omega] at this
        exact this
theorem bRow_one (es : List BKe) : ∀ u ∈ bRow es, u.oneCell' = true := by
  intro u hu
  unfold bRow at hu
  obtain ⟨e, _, he⟩ := List.mem_flatMap.1 hu
  exact four_one _ _ _ _ _ _ u he
theorem bRow_app (a b : List BKe) : bRow (a ++ b) = bRow a ++ bRow b := by simp [bRow]
set_option maxRecDepth 100000 in
/-- append of a whole row, as a step of a region that draws its order. -/
theorem step_append_bds {w : World} {ops : Array Oper} {o : Oper} {act : Act} {K : Act → World → Prop} {Q : Exit → Act → World → Prop} {E : Prop} (hgd : o.guard = none) (s x : Operand)
    (ho : o.op = .call { callee := .builtin .append, args := #[s, x], argTypes := #[25, 25] })
    (base : Nat) (v : Value) (ks es : List BKe) (hs : act.eval s = v) (hown : w.ownsRow base 44 4 v ks.length (bRow ks))
    (a : Option Addr) (n c : Nat) (hx : act.eval x = .slice a n c) (hn : n = es.length) (hc : es ≠ [] → ∃ b o, a = some ⟨b, o, none⟩ ∧ ∀ j u, (bRow es)[j]? = some u → w.cell? ⟨b, o + j, none⟩ = some u)
    (hlen : ks.length + es.length ≤ 1000000) (hbase : base ≤ w.heap.size)
    (h : ∀ v' w', w'.ownsRow base 44 4 v' (ks ++ es).length (bRow (ks ++ es)) → w.grownBy w' v.ownBlock → K (act.put o.dst v') w') : if Region.wanted o (yielded ops act.tmps) = true then Oper.wp Try.prog o act w K Q else E := by
  obtain ⟨i0, hi, hz0, hz1, hz2⟩ := info_parts info_bd
  subst hn
  by_cases he : es = []
  · subst he
    have hw : Region.wanted o (yielded ops act.tmps) = true := by simp [Region.wanted, hgd]
    rw [if_pos hw]
    have hrun := run_append_zero (P := Try.prog) (w := w) base 25 o.type 44 i0 4 Try.underlying25 hi v ks.length c a (bRow ks) hown
    rw [List.length_nil] at hx
    unfold Oper.wp
    simp [execOp, ho, resolve, invoke, builtin, hs, hx, hrun, Result.andThen]
    refine h v w ?_ ⟨rfl, rfl, rfl, Nat.le_refl _, fun _ _ _ => rfl⟩
    rw [List.append_nil]; exact hown
  · obtain ⟨b, o', rfl, h2⟩ := hc he
    have hp : 0 < es.length := List.length_pos_iff.2 he
    refine step_append_lies _ hgd s x 25 ho base 44 i0 (.agg #[.int .i64 0, .int .i64 0, .int .i64 0, .slice none 0 0]) 4 48 Try.underlying25 hi hz0 hz1 hz2 rfl (by decide) v ks.length (bRow ks) hs hown ⟨b, o', none⟩ es.length c (bRow es) hx (bRow_length es) (fun j u hu => by rw [add_flat]; exact h2 j u hu) (bRow_one es) hp (by unfold maxLen; omega) (by omega) hbase w.heap.size rfl (fun g cap w' h1 h3 _ _ => ?_)
    refine h _ w' ?_ h3
    rw [List.length_append, bRow_app]; exact h1
end Go.Proofs.Ytncdbbjkafgphaa
namespace Go.Proofs.Ytncdbbjkafgphaa
open Go Go.RowKit
open Tp (T Bd)

/-- A block of zeros holds no node of right types. -/
theorem KidsAt.miss {G : Nat → Prop} {y : World} {bb : Nat} {ty : TypeId} (hbox : y.heap[bb]? = some (.cells #[.int .i64 0, .int .i64 0, .slice none 0 0] ty (0, 0))) : ∀ (l : List T) (a : Option Addr), Tp.rights l = true → KidsAt G y l a → KidsAt (fun b => G b ∧ b ≠ bb) y l a := by
  have hn : ∀ (sz : Nat), (∀ (t : T) (b o : Nat), Tp.size t ≤ sz → Tp.right t = true → NodeAt G y t b o → b ≠ bb ∧ NodeAt (fun b => G b ∧ b ≠ bb) y t b o) ∧ (∀ (l : List T) (a : Option Addr), Tp.sizes l ≤ sz → Tp.rights l = true → KidsAt G y l a → KidsAt (fun b => G b ∧ b ≠ bb) y l a) := by
    intro sz
    induction sz with
    | zero =>
      refine ⟨fun t b o h => by have := Tp.size_pos t; omega, fun l a h _ hk => ?_⟩
      cases l with
      | nil => simp [KidsAt]
      | cons t r => have := Tp.size_pos t; simp only [Tp.sizes] at h; omega
    | succ sz ih =>
      have node : ∀ (t : T) (b o : Nat), Tp.size t ≤ sz + 1 → Tp.right t = true → NodeAt G y t b o → b ≠ bb ∧ NodeAt (fun b => G b ∧ b ≠ bb) y t b o := fun t b o h hr hx => by
        obtain ⟨a, cap, q1, q2, q3, q4⟩ := hx.ty
        have hs := kids_sizes t
        refine ⟨fun e => ?_, NodeAt.mk' ⟨q1.1, q1.2.1, q1.2.2.1, q1.2.2.2.1, ih.2 _ _ (by omega) (kids_right hr) q1.2.2.2.2⟩ q2 q3 q4⟩
        rw [e] at q2 q4
        have ho : o = 0 := by
          rcases Nat.eq_zero_or_pos o with h | h
          · exact h
          · exfalso
            have h0 : (#[Value.int .i64 0, .int .i64 0, .slice none 0 0] : Array Value)[o + 2]? = none := Array.getElem?_eq_none (by simp; omega)
            simp [World.cell?, hbox, h0] at q4
        rw [ho] at q2
        have hk : (0 : Int) = t.kind := by simpa [World.cell?, hbox] using q2
        cases t with
        | mk k n l =>
          have h1 := (Tp.right_node hr).1
          have hk' : k = 0 := hk.symm
          rw [hk'] at h1
          simp [Tp.arity] at h1
      have kids : ∀ (l : List T) (a : Option Addr), Tp.sizes l ≤ sz + 1 → Tp.rights l = true → KidsAt G y l a → KidsAt (fun b => G b ∧ b ≠ bb) y l a := fun l => by
        induction l with
        | nil => intro a _ _ _; simp [KidsAt]
        | cons t r ihl =>
          intro a h hr hk
          obtain ⟨b, o, rfl, h2, h3, h4⟩ := hk.head
          simp only [Tp.sizes] at h
          have hd := node t b o (by omega) (Tp.rights_cons hr).1 h3
          simp only [KidsAt]
          exact ⟨b, o, rfl, ⟨h2, hd.1⟩, hd.2, ihl _ (by omega) (Tp.rights_cons hr).2 h4⟩
      exact ⟨node, kids⟩
  exact fun l a hr h => (hn (Tp.sizes l)).2 l a (Nat.le_refl _) hr h
/-- A box of zeros is written. -/
theorem put_box {B : Nat} {W y F : World} {bb : Nat} {m : T} {k n : Int} {l : Nat} {a : Option Addr} {c : Nat} (hv : TV m k n l) (hr : Tp.rights m.kids = true) (hbox : y.heap[bb]? = some (.cells #[.int .i64 0, .int .i64 0, .slice none 0 0] 24 (0, 0))) (hty : TyAt (LT y.heap.size) y m a c)
    (hB : Below B W y) (hbb : B ≤ bb) (hF : ((y.setCell ⟨bb, 0, none⟩ (.int .i64 k)).setCell ⟨bb, 1, none⟩ (.int .i64 n)).setCell ⟨bb, 2, none⟩ (.slice a l c) = F) : BoxT F bb m k n l a c ∧ Below B W F := by
  have hT := set3_turns y bb (.int .i64 k) (.int .i64 n) (.slice a l c)
  have hO := fun j (hj : j ≠ bb) => set3_other (V := y) (v0 := .int .i64 k) (v1 := .int .i64 n) (v2 := .slice a l c) hj
  have hb := box_set3 (v0 := .int .i64 k) (v1 := .int .i64 n) (v2 := .slice a l c) hbox
  rw [hF] at hT hO hb
  obtain ⟨q1, q2, q3, q4, q5⟩ := hty
  refine ⟨⟨hv, hb, q1, q2, q3, q4, KidsAt.mono (fun b o h => World.cell?_of_block (a := ⟨b, o, none⟩) (hO b h.2)) (fun b h => Nat.lt_of_lt_of_le h.1 hT.size) _ _ (KidsAt.miss hbox _ _ hr q5)⟩, ?_⟩
  exact (hT.mono (M' := fun j => B ≤ j) (fun j _ hj => by rw [show j = bb from hj]; exact hbb)).below hB (fun _ h => h) (Nat.le_of_lt (Nat.lt_of_le_of_lt hbb (Array.getElem?_eq_some_iff.1 hbox).1))
theorem zero_facts {y : World} {bb : Nat} {ty : TypeId} (h : y.heap[bb]? = some (.cells #[.int .i64 0, .int .i64 0, .slice none 0 0] ty (0, 0))) : y.cell? ⟨bb, 0, none⟩ = some (.int .i64 0) ∧ y.cell? ⟨bb, 1, none⟩ = some (.int .i64 0) ∧ y.cell? ⟨bb, 2, none⟩ = some (.slice none 0 0) ∧ y.frozen? ⟨bb, 0, none⟩ = false ∧ y.frozen? ⟨bb, 1, none⟩ = false ∧ y.frozen? ⟨bb, 2, none⟩ = false :=
  ⟨cell_box h rfl rfl, cell_box h rfl rfl, cell_box h rfl rfl, IsC.frozen ⟨_, _, h⟩, IsC.frozen ⟨_, _, h⟩, IsC.frozen ⟨_, _, h⟩⟩

/-- A row of binds of the call's own, whose types lie below it. -/
structure RowLw (B : Nat) (w : World) (v : Value) (ks : List BKe) : Prop where
  own : w.ownsRow B 44 4 v ks.length (bRow ks)
  each : ∀ e ∈ ks, TyAt (LT B) w e.t e.a e.cap
theorem RowLw.made {B : Nat} {w : World} (h : B ≤ w.heap.size) : RowLw B (w.alloc (.cells #[] 44)) (.slice (some ⟨w.heap.size, 0, none⟩) 0 0) [] :=
  ⟨⟨rfl, .inr ⟨w.heap.size, 0, #[], rfl, h, World.alloc_heap_new w _, Nat.le_refl _, Nat.zero_le _, rfl, rfl⟩⟩, fun _ h => by cases h⟩
theorem RowLw.step {B : Nat} {w w' : World} {v : Value} {ks : List BKe} (h : RowLw B w v ks) (hb : Below w.heap.size w w') (hB : B ≤ w.heap.size) : RowLw B w' v ks :=
  ⟨own_same h.own fun g hg => hb.block g (h.own.lt g hg).2, fun e he => (h.each e he).below hb (fun _ h => Nat.lt_of_lt_of_le h hB) (fun _ h => h)⟩
theorem RowLw.below {B : Nat} {w w' : World} {v : Value} {ks : List BKe} (h : RowLw B w v ks) (hg : w.grownBy w' v.ownBlock) (hB : B ≤ w.heap.size) : Below B w w' :=
  (Below.refl B w).grown hg hB (fun k e => (h.own.lt k e).1)
theorem RowLw.more {B : Nat} {w w' : World} {v v' : Value} {ks es : List BKe} (h : RowLw B w v ks) (hb : Below B w w') (he : ∀ e ∈ es, TyAt (LT B) w e.t e.a e.cap) (hown : w'.ownsRow B 44 4 v' (ks ++ es).length (bRow (ks ++ es))) : RowLw B w' v' (ks ++ es) :=
  ⟨hown, fun e he' => by
    rcases List.mem_append.1 he' with q | q
    · exact (h.each e q).below hb (fun _ h => h) (fun _ h => h)
    · exact (he e q).below hb (fun _ h => h) (fun _ h => h)⟩
theorem RowLw.far {B : Nat} {w : World} {v : Value} {ks : List BKe} (h : RowLw B w v ks) {b : Nat} {x : Array Value} {fz : Nat × Nat} (hz : w.heap[b]? = some (.cells x 24 fz)) : v.ownBlock ≠ some b := fun e => by
  rcases h.own.2 with ⟨h1, _⟩ | ⟨g, cp, cur, h1, _, h3, _⟩
  · rw [h1] at e; cases e
  · rw [h1] at e
    injection e with e
    dsimp only at e
    rw [e, hz] at h3
    injection h3 with h3
    injection h3 with _ h4 _
    exact absurd h4 (by decide)
theorem RowLw.binds {B : Nat} {w : World} {v : Value} {ks : List BKe} (h : RowLw B w v ks) (hB : B ≤ w.heap.size) : ∃ a cap, v = .slice a ks.length cap ∧ BindsAt (LT w.heap.size) w (ks.map fun e => ((e.n, e.t) : Bd)) a := by
  rcases h.own.2 with ⟨h1, h2⟩ | ⟨g, cp, cur, h1, h2, h3, h4, h5, _⟩
  · have hk : ks = [] := List.eq_nil_of_length_eq_zero h2
    subst hk
    exact ⟨none, 0, h1, fun i hi => by simp at hi⟩
  · refine ⟨_, _, h1, fun i hi => ?_⟩
    have hi' : i < ks.length := by simpa using hi
    have hc := h.own.cells (g := g) (by rw [h1]; rfl)
    have k : ∀ j, j < 4 → ∀ u, (bkCells ks[i])[j]? = some u → w.cell? ⟨g, 0 + i * 4 + j, none⟩ = some u := fun j hj u hu => by
      have := hc (i * 4 + j) u (by rw [bRow_at ks i hi' j hj]; exact hu)
      rw [add_flat] at this
      rw [show 0 + i * 4 + j = 0 + (i * 4 + j) from by omega]; exact this
    have ht := ty_same (fun _ _ => rfl) (fun k (hk : LT B k) => (Nat.lt_of_lt_of_le hk hB : LT w.heap.size k)) (h.each ks[i] (List.getElem_mem hi'))
    have e0 : (ks.map fun e => ((e.n, e.t) : Bd))[i] = (ks[i].n, ks[i].t) := by simp
    rw [e0]
    exact ⟨g, 0, ks[i].a, ks[i].cap, rfl, (Array.getElem?_eq_some_iff.1 h3).1, ht, k 0 (by omega) _ rfl, k 1 (by omega) _ rfl, k 2 (by omega) _ rfl, k 3 (by omega) _ rfl⟩
/-- The cells of a row that is handed in, in a later world. -/
theorem row_later {B : Nat} {w w' : World} {es : List BKe} {a : Option Addr} (h : es ≠ [] → ∃ b o, a = some ⟨b, o, none⟩ ∧ b < B ∧ ∀ j u, (bRow es)[j]? = some u → w.cell? ⟨b, o + j, none⟩ = some u) (hb : Below B w w') : es ≠ [] → ∃ b o, a = some ⟨b, o, none⟩ ∧ ∀ j u, (bRow es)[j]? = some u → w'.cell? ⟨b, o + j, none⟩ = some u := fun hn => by
  obtain ⟨b, o, e, hlt, hc⟩ := h hn
  exact ⟨b, o, e, fun j u hu => (World.cell?_of_block (a := ⟨b, o + j, none⟩) (hb.block b hlt)).trans (hc j u hu)⟩
end Go.Proofs.Ytncdbbjkafgphaa
namespace Go.Proofs.Ytncdbbjkafgphaa
open Go Go.RowKit
open Tp (T Bd)
mutual
theorem pl_closed : ∀ t : T, Tp.right t = true → Tp.without 6 (Tp.pl true t) = true
  | .mk k n l, h => by
    by_cases h5 : k = 5
    · rw [Tp.pl_dyn (t := .mk k n l) h5]; simp [Tp.without, Tp.withouts]
    · by_cases h6 : k = 6
      · rw [Tp.pl_var (t := .mk k n l) h6 rfl]; simp [Tp.without, Tp.withouts]
      · rw [Tp.pl_node (t := .mk k n l) h5 (fun h => h6 h.1)]
        simp only [T.kind, T.num, T.kids]
        simp only [Tp.right, Bool.and_eq_true] at h
        have g := pls_closed l h.2
        rw [Tp.pls_map] at g
        simp [Tp.without, h6, g]
theorem pls_closed : ∀ l : List T, Tp.rights l = true → Tp.withouts 6 (Tp.pls true l) = true
  | [], _ => by simp [Tp.pls, Tp.withouts]
  | t :: r, h => by
    obtain ⟨g1, g2⟩ := Tp.rights_cons h
    simp [Tp.pls, Tp.withouts, pl_closed t g1, pls_closed r g2]
end
theorem yAt_closed {l : List T} (i : Nat) (h : Tp.rights l = true) : Tp.without 6 (yAt l true i) = true := by
  unfold yAt
  split
  · simp [Tp.without, Tp.withouts]
  · rename_i hl
    have hi : i % l.length < l.length := Nat.mod_lt _ (List.length_pos_iff.2 hl)
    rw [List.getD_eq_getElem?_getD, List.getElem?_eq_getElem hi]
    exact pl_closed _ (rights_mem' l h _ (List.getElem_mem hi))
/-- What Closing puts: static closed types for all variables. -/
theorem closing_stc {t : T} {l : List T} (hl : Tp.rights l = true) : Tp.StC (statL (Tp.vars t []) l true (Tp.vars t []).length) (Tp.vars t []) := fun n hn => by
  obtain ⟨L, hL⟩ : ∃ L, statL (Tp.vars t []) l true (Tp.vars t []).length = L := ⟨_, rfl⟩
  have hk := statL_keys (Tp.vars t []) l true
  rw [hL] at hk ⊢
  cases hv : Tp.look L n with
  | none => rw [Tp.look_none, hk] at hv; exact absurd hn hv
  | some v =>
    have hm := Tp.look_mem hv
    rw [← hL] at hm
    obtain ⟨_, i, hi⟩ := statL_mem hm
    refine ⟨v, rfl, ?_⟩
    dsimp only at hi
    rw [hi]
    exact ⟨(yAt_good true i hl).1, (yAt_good true i hl).2, yAt_closed i hl⟩
/-- What the law asks of two types with static closed types for their variables. -/
theorem under_facts {t u x y : T} {L M : List Bd} (ht : Tp.right t = true) (hu : Tp.right u = true) (hL : Tp.StC L (Tp.vars t [])) (hM : Tp.StC M (Tp.vars u [])) (hx : Tp.sub L t = x) (hy : Tp.sub M u = y) :
    Tp.ub x y = Tp.bl x y ∧ (Tp.bl x y = true → Tp.ub t u = true ∧ Tp.ub x u = true ∧ Tp.ub t y = true) := by
  obtain ⟨x6, -, xr⟩ := Tp.stc_closed t ht hL.occ
  obtain ⟨y6, -, yr⟩ := Tp.stc_closed u hu hM.occ
  rw [hx] at x6 xr
  rw [hy] at y6 yr
  have hno : ∀ z : T, Tp.without 6 z = true → Tp.StC [] (Tp.vars z []) := fun z hz => Tp.StC.of_occ fun n hn => absurd hn (by simp [Tp.occ_closed n z hz])
  constructor
  · rw [Bool.eq_iff_iff, Tp.ub_iff xr yr, Tp.und_closed x6 y6]
    unfold Tp.bl
    rw [xr, yr]; simp
  · intro h
    have hb : Tp.below x y = true := by unfold Tp.bl at h; rw [xr, yr] at h; simpa using h
    refine ⟨(Tp.ub_iff ht hu).2 (Tp.und_of hL hM (by rw [hx, hy]; exact hb)), (Tp.ub_iff xr hu).2 (Tp.und_of (hno x x6) hM (by rw [Tp.sub_nil, hy]; exact hb)), (Tp.ub_iff ht yr).2 (Tp.und_of hL (hno y y6) (by rw [hx, Tp.sub_nil]; exact hb))⟩
theorem under_dyn {t : T} (ht : Tp.right t = true) : Tp.ub t (.mk 5 0 []) = true := (Tp.ub_iff ht (by simp [Tp.right, Tp.rights, Tp.nodeRight, Tp.arity])).2 Tp.und_dyn
end Go.Proofs.Ytncdbbjkafgphaa

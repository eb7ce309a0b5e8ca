/- The page's Agree of stage 8, walked. -/
import Derived.Test.YtncdbbjkafgphaaAbA
namespace Go.Proofs.Ytncdbbjkafgphaa
open Go Go.RowKit
open Tp (T)

def leafB (t u : T) : Bool := decide (t.kids.length = 0) && decide (t.kind = u.kind) && decide (t.num = u.num)
def likeB (t u : T) : Bool := decide (0 < t.kids.length) && decide (t.kind = u.kind)
theorem box_pair {w : World} {k n k' n' : Int} {m m' : Nat} {a a' : Option Addr} {c c' : Nat} : ∀ W2, (w.alloc (.cells #[.int .i64 k, .int .i64 n, .slice a m c] 24)).alloc (.cells #[.int .i64 k', .int .i64 n', .slice a' m' c'] 24) = W2 → Below w.heap.size w W2 ∧ W2.heap.size = w.heap.size + 2 ∧ ∀ x, Below (w.heap.size + 1 + 1) W2 x →
    (x.cell? ⟨w.heap.size, 0, none⟩ = some (.int .i64 k) ∧ x.cell? ⟨w.heap.size, 1, none⟩ = some (.int .i64 n) ∧ x.cell? ⟨w.heap.size, 2, none⟩ = some (.slice a m c)) ∧ (x.cell? ⟨w.heap.size + 1, 0, none⟩ = some (.int .i64 k') ∧ x.cell? ⟨w.heap.size + 1, 1, none⟩ = some (.int .i64 n') ∧ x.cell? ⟨w.heap.size + 1, 2, none⟩ = some (.slice a' m' c')) := by
  rintro W2 rfl
  refine ⟨((Below.refl _ _).alloc (Nat.le_refl _) _).alloc (by simp) _, by simp, fun x hb => ?_⟩
  have h1 := box1 w #[.int .i64 k, .int .i64 n, .slice a m c] #[.int .i64 k', .int .i64 n', .slice a' m' c'] 24 24
  have h2 := box2 w #[.int .i64 k, .int .i64 n, .slice a m c] #[.int .i64 k', .int .i64 n', .slice a' m' c'] 24 24
  have e1 := hb.block w.heap.size (by omega)
  have e2 := hb.block (w.heap.size + 1) (by omega)
  exact ⟨⟨cell_box h1 e1 rfl, cell_box h1 e1 rfl, cell_box h1 e1 rfl⟩, ⟨cell_box h2 e2 rfl, cell_box h2 e2 rfl, cell_box h2 e2 rfl⟩⟩
set_option maxHeartbeats 1000000 in
theorem rleaf_any {t u : T} {k n k' n' : Int} {m m' : Nat} {a a' : Option Addr} {c c' : Nat} (w : World) (hv : TV t k n m) (hv' : TV u k' n' m') :
    Calls Try.prog 66 #[.agg #[.int .i64 k, .int .i64 n, .slice a m c], .agg #[.int .i64 k', .int .i64 n', .slice a' m' c']] w fun e w' => e = .returned (.bool (leafB t u)) ∧ Below w.heap.size w w' := by
  obtain ⟨W2, hW2⟩ : ∃ W2, (w.alloc (.cells #[.int .i64 k, .int .i64 n, .slice a m c] 24)).alloc (.cells #[.int .i64 k', .int .i64 n', .slice a' m' c'] 24) = W2 := ⟨_, rfl⟩
  obtain ⟨hb2, _, hcell⟩ := box_pair W2 hW2
  obtain ⟨⟨c0, c1, c2⟩, ⟨d0, d1, d2⟩⟩ := hcell W2 (Below.refl _ _)
  have hres : leafB t u = (decide (m = 0) && decide (k = k') && decide (n = n')) := by unfold leafB; rw [hv.1, hv.2.1, hv.2.2, hv'.1, hv'.2.1]
  rw [hres]
  have HB2 := Lib.hid hb2; have HW2 := Lib.hid hW2
  clear hb2 hW2 hcell hv hv' hres
  go_enter Try.func66, Try.ntmps66
  go_upto_region 1 with fail
  rw [HW2.out]
  by_cases q1 : m = 0
  · subst q1
    by_cases q2 : k = k'
    · subst q2
      by_cases q3 : n = n'
      · subst q3
        go_wp2_with fail
        go_ret
        exact ⟨ret_boolT (by simp), HB2.out⟩
      · have p3 : (n == n') = false := by simp [q3]
        go_wp2_with fail
        go_ret
        exact ⟨ret_boolT (by simp), HB2.out⟩
    · have p2 : (k == k') = false := by simp [q2]
      go_wp2_with fail
      go_ret
      exact ⟨ret_boolT (by simp), HB2.out⟩
  · have p1 : ((m : Int) == 0) = false := by simp; omega
    go_wp2_with fail
    go_ret
    exact ⟨ret_boolT (by simp [q1]), HB2.out⟩
set_option maxHeartbeats 1000000 in
theorem rlike_any {t u : T} {k n k' n' : Int} {m m' : Nat} {a a' : Option Addr} {c c' : Nat} (w : World) (hv : TV t k n m) (hv' : TV u k' n' m') :
    Calls Try.prog 70 #[.agg #[.int .i64 k, .int .i64 n, .slice a m c], .agg #[.int .i64 k', .int .i64 n', .slice a' m' c']] w fun e w' => e = .returned (.bool (likeB t u)) ∧ Below w.heap.size w w' := by
  obtain ⟨W2, hW2⟩ : ∃ W2, (w.alloc (.cells #[.int .i64 k, .int .i64 n, .slice a m c] 24)).alloc (.cells #[.int .i64 k', .int .i64 n', .slice a' m' c'] 24) = W2 := ⟨_, rfl⟩
  obtain ⟨hb2, _, hcell⟩ := box_pair W2 hW2
  obtain ⟨⟨c0, c1, c2⟩, ⟨d0, d1, d2⟩⟩ := hcell W2 (Below.refl _ _)
  have hres : likeB t u = (decide (0 < m) && decide (k = k')) := by unfold likeB; rw [hv.1, hv.2.2, hv'.1]
  rw [hres]
  have HB2 := Lib.hid hb2; have HW2 := Lib.hid hW2
  clear hb2 hW2 hcell hv hv' hres
  go_enter Try.func70, Try.ntmps70
  go_upto_region 1 with fail
  rw [HW2.out]
  by_cases q1 : 0 < m
  · by_cases q2 : k = k'
    · subst q2
      go_wp2_with fail
      go_ret
      exact ⟨ret_boolT (by simp), HB2.out⟩
    · have p2 : (k == k') = false := by simp [q2]
      go_wp2_with fail
      go_ret
      exact ⟨ret_boolT (by simp [q2]), HB2.out⟩
  · obtain rfl : m = 0 := by omega
    go_wp2_with fail
    go_ret
    exact ⟨ret_boolT (by simp), HB2.out⟩
theorem agrees_append : ∀ (a b c d : List T), a.length = c.length → Tp.agrees (a ++ b) (c ++ d) = (Tp.agrees a c && Tp.agrees b d)
  | [], b, [], d, _ => by simp [Tp.agrees]
  | x :: r, b, y :: s, d, h => by
    simp only [List.cons_append, Tp.agrees, agrees_append r b s d (by simpa using h), Bool.and_assoc]
theorem agrees_take (l m : List T) (k : Nat) (h : k < l.length) (h' : k < m.length) : Tp.agrees (l.take (k + 1)) (m.take (k + 1)) = (Tp.agrees (l.take k) (m.take k) && Tp.agree l[k] m[k]) := by
  rw [List.take_succ_eq_append_getElem h, List.take_succ_eq_append_getElem h', agrees_append _ _ _ _ (by simp; omega)]; simp [Tp.agrees]
theorem agrees_get (l m : List T) (k : Nat) (h : k < l.length) (h' : k < m.length) (hf : Tp.agree l[k] m[k] = false) : Tp.agrees l m = false := by
  have e := agrees_append (l.take (k + 1)) (l.drop (k + 1)) (m.take (k + 1)) (m.drop (k + 1)) (by simp; omega)
  rw [List.take_append_drop, List.take_append_drop, agrees_take l m k h h', hf] at e
  simpa using e
theorem rights_at {l : List T} (h : Tp.rights l = true) (k : Nat) (hk : k < l.length) : Tp.right l[k] = true := by
  cases hr : Tp.right l[k] with
  | true => rfl
  | false => rw [rights_get l k hk hr] at h; cases h
/-- What the page asks of two right types, none of them a ?. -/
theorem page_agree {t u : T} (ht : Tp.right t = true) (hu : Tp.right u = true) (h5 : ¬ t.kind = 5) (h5' : ¬ u.kind = 5) : (leafB t u = true → Tp.agree t u = true) ∧ (leafB t u = false → likeB t u = false → Tp.agree t u = false) ∧ (likeB t u = true → t.kids.length = u.kids.length ∧ t.num = 0 ∧ Tp.agree t u = Tp.agrees t.kids u.kids) := by
  cases t with
  | mk k n l =>
    cases u with
    | mk k' n' l' =>
      simp only [Tp.T.kind] at h5 h5'
      have e : Tp.agree (.mk k n l) (.mk k' n' l') = (decide (k = k') && decide (n = n') && Tp.agrees l l') := by simp only [Tp.agree, h5, h5', if_false]
      simp only [leafB, likeB, Tp.T.kids, Tp.T.kind, Tp.T.num]
      rw [e]
      refine ⟨fun h => ?_, fun h h2 => ?_, fun h => ?_⟩
      · rw [Bool.and_eq_true, Bool.and_eq_true] at h
        obtain ⟨⟨q1, q2⟩, q3⟩ := h
        have p2 := of_decide_eq_true q2
        have p3 := of_decide_eq_true q3
        have hl : l = [] := List.eq_nil_of_length_eq_zero (of_decide_eq_true q1)
        clear q1 q2 q3
        rw [hl, p2, p3]
        simp [Tp.agrees]
      · by_cases hk : k = k'
        · by_cases hl : 0 < l.length
          · simp [hk, hl] at h2
          · have hl0 : l.length = 0 := by omega
            have hn : ¬ n = n' := fun hn => by simp [hl0, hk, hn] at h
            simp [hn]
        · simp [hk]
      · rw [Bool.and_eq_true] at h
        obtain ⟨q1, q2⟩ := h
        have p1 := of_decide_eq_true q1
        have p2 := of_decide_eq_true q2
        clear q1 q2
        subst p2
        obtain ⟨r1, _, _, _, r5⟩ := Tp.right_node ht
        obtain ⟨s1, _, _, _, s5⟩ := Tp.right_node hu
        have h6 : k ≠ 6 := fun h => by subst h; simp [Tp.arity] at r1; omega
        refine ⟨by omega, r5 h6, ?_⟩
        rw [r5 h6, s5 h6]; simp

end Go.Proofs.Ytncdbbjkafgphaa

/- What the stack of claims of package sub asks, plainly. -/
import Derived.Test.YtafekidkikfpcaaSbT
namespace Go.Proofs.Ytafekidkikfpcaa
open Tp (T Md)

def mdv : Md → Int
  | .p => 0
  | .n => 1
  | .s => 2
def settled : Md → T → T → Bool
  | .p, _, y => decide (y.kind = 5)
  | .n, x, _ => decide (x.kind = 5)
  | .s, _, _ => false
def fits (x y : T) : Bool := if y.kind = 5 then !decide (x.kind = 6) else decide (x.kind = y.kind) && decide (x.num = y.num)
def nilT : T := .mk 0 0 []
/-- What stands against the k-th kid. -/
def other (y : T) (k : Nat) : T := if y.kind = 5 then y else y.kids.getD k nilT
/-- The claim for the k-th kid. -/
def kidC (m : Md) (x y : T) (k : Nat) : Md × T × T := if x.kind = 9 ∧ k = 0 then (m.flip, other y k, x.kids.getD k nilT) else (m, x.kids.getD k nilT, other y k)
/-- The claims for the first kids, the last of them on top. -/
def stk (m : Md) (x y : T) : Nat → List (Md × T × T)
  | 0 => []
  | k + 1 => kidC m x y k :: stk m x y k
def clz (l : List (Md × T × T)) : Bool := l.all fun q => Tp.sd q.1 q.2.1 q.2.2
def wtC (q : Md × T × T) : Nat := Tp.size q.2.1 + Tp.size q.2.2 - 1
def ssz (l : List (Md × T × T)) : Nat := (l.map wtC).sum
theorem clz_append (a b : List (Md × T × T)) : clz (a ++ b) = (clz a && clz b) := by simp [clz]
theorem ssz_append (a b : List (Md × T × T)) : ssz (a ++ b) = ssz a + ssz b := by simp [ssz]
theorem ssz_cons (a : Md × T × T) (b : List (Md × T × T)) : ssz (a :: b) = wtC a + ssz b := by simp [ssz]
theorem wtC_pos (q : Md × T × T) : 0 < wtC q := by have := Tp.size_pos q.2.1; have := Tp.size_pos q.2.2; unfold wtC; omega
theorem len_ssz (l : List (Md × T × T)) : l.length ≤ ssz l := by
  induction l with
  | nil => simp
  | cons a r ih => have := wtC_pos a; rw [ssz_cons, List.length_cons]; omega
theorem stk_len (m : Md) (x y : T) : ∀ k, (stk m x y k).length = k
  | 0 => rfl
  | k + 1 => by rw [stk, List.length_cons, stk_len m x y k]
theorem claim_settled {m : Md} {x y : T} (hx : Tp.right x = true) (hy : Tp.right y = true) (h : settled m x y = true) : Tp.sd m x y = true := by
  cases m with
  | p => exact side_p hx hy (of_decide_eq_true h)
  | n => exact side_n hx hy (of_decide_eq_true h)
  | s => cases h
theorem dyn_flip {m : Md} {x : T} (hx : Tp.right x = true) (hm : m ≠ .n) : Tp.sd m (.mk 5 0 []) x = decide (x.kind = 5) := by
  have hq : Tp.right (.mk 5 0 []) = true := Tp.right_q
  by_cases h5 : x.kind = 5
  · rw [decide_eq_true h5]
    have := Tp.sd_dyn hq hx h5
    cases m with
    | p => exact this.1
    | n => exact absurd rfl hm
    | s => rw [this.2.2]; exact Tp.dsub_dyn rfl
  · rw [decide_eq_false h5]
    have := Tp.sd_dynl hq rfl h5
    cases m with
    | p => exact this.1
    | n => exact absurd rfl hm
    | s => exact this.2.2
theorem sd_q {m : Md} {x : T} (hx : Tp.right x = true) (hm : m ≠ .p) : Tp.sd m x (.mk 5 0 []) = Tp.dsub x := by
  have h := Tp.sd_dyn hx Tp.right_q rfl
  cases m with
  | p => exact absurd rfl hm
  | n => exact h.2.1
  | s => exact h.2.2
theorem claim_node {m : Md} {x y : T} (hx : Tp.right x = true) (hy : Tp.right y = true) (hs : settled m x y = false) : Tp.sd m x y = (fits x y && clz (stk m x y x.kids.length)) := by
  by_cases h5 : y.kind = 5
  · have hm : m ≠ .p := fun h => by subst h; simp [settled, h5] at hs
    have hf : m.flip ≠ .n := fun h => by cases m <;> simp_all [Md.flip]
    cases y with
    | mk k' n' l' =>
      simp only [Tp.T.kind] at h5
      subst h5
      obtain ⟨rfl, rfl⟩ := Tp.right_dyn hy
      rw [sd_q hx hm]
      cases x with
      | mk k n l =>
        have hft : fits (.mk k n l) (.mk 5 0 []) = !decide (k = 6) := by unfold fits; rw [if_pos (show (Tp.T.mk 5 0 []).kind = 5 from rfl)]; rfl
        have hot : ∀ j, other (.mk 5 0 []) j = .mk 5 0 [] := fun j => by simp [other, Tp.T.kind]
        rw [hft]
        rcases Tp.right_shape hx with ⟨rfl, _⟩ | ⟨x, rfl, rfl, rfl, hx1⟩ | ⟨x1, x2, rfl, rfl | rfl, rfl, hx1, hx2⟩
        · unfold Tp.dsub
          by_cases h5 : k = 5
          · simp [h5, Tp.T.kids, stk, clz]
          · by_cases h6 : k = 6 <;> simp [h5, h6, Tp.T.kids, stk, clz]
        · rw [Tp.dsub_list]
          simp [Tp.T.kids, stk, clz, kidC, Tp.T.kind, hot, sd_q hx1 hm]
        · rw [Tp.dsub_pair]
          simp [Tp.T.kids, stk, clz, kidC, Tp.T.kind, hot, sd_q hx1 hm, sd_q hx2 hm, Bool.and_comm]
        · rw [Tp.dsub_fun]
          simp [Tp.T.kids, stk, clz, kidC, Tp.T.kind, hot, sd_q hx2 hm, dyn_flip hx1 hf, Bool.and_comm]
  · have hft : fits x y = (decide (x.kind = y.kind) && decide (x.num = y.num)) := by simp [fits, h5]
    have hot : ∀ j, other y j = y.kids.getD j nilT := fun j => by simp [other, h5]
    rw [hft]
    by_cases hx5 : x.kind = 5
    · have hd := Tp.sd_dynl hx hx5 h5
      have hk : ¬ x.kind = y.kind := fun h => h5 (h ▸ hx5)
      rw [decide_eq_false hk]
      cases m with
      | p => exact hd.1
      | n => simp [settled, hx5] at hs
      | s => exact hd.2.2
    · by_cases hk : x.kind = y.kind
      · rw [decide_eq_true hk]
        rcases Tp.two_shape hx hy hk with ⟨k, n, n', _, _, _, rfl, rfl⟩ | ⟨x, y, rfl, rfl, _⟩ | ⟨x1, x2, y1, y2, rfl, rfl, _⟩ | ⟨x1, x2, y1, y2, rfl, rfl, _⟩
        · rw [Tp.sd_leaf hx5]; by_cases h : n = n' <;> simp [h, Tp.T.num, Tp.T.kids, stk, clz]
        · rw [Tp.sd_list]; simp [Tp.T.num, Tp.T.kids, stk, clz, kidC, Tp.T.kind, hot]
        · rw [Tp.sd_pair]; simp [Tp.T.num, Tp.T.kids, stk, clz, kidC, Tp.T.kind, hot, Bool.and_comm]
        · rw [Tp.sd_fun]; simp [Tp.T.num, Tp.T.kids, stk, clz, kidC, Tp.T.kind, hot, Bool.and_comm]
      · rw [decide_eq_false hk]; exact Tp.sd_ne hx5 h5 hk m
/-- What fits, fits with its kids: as many, unless the other is ?. -/
theorem fits_len {x y : T} (hx : Tp.right x = true) (hy : Tp.right y = true) (hf : fits x y = true) (h5 : ¬ y.kind = 5) : y.kids.length = x.kids.length := by
  simp only [fits, h5, if_false, Bool.and_eq_true, decide_eq_true_eq] at hf
  have h1 := (Tp.right_node (k := x.kind) (n := x.num) (l := x.kids) (by cases x; exact hx)).1
  have h2 := (Tp.right_node (k := y.kind) (n := y.num) (l := y.kids) (by cases y; exact hy)).1
  rw [hf.1] at h1; omega
theorem stk_wt {m : Md} {x y : T} (hx : Tp.right x = true) (hy : Tp.right y = true) (hf : fits x y = true) : ssz (stk m x y x.kids.length) < wtC (m, x, y) := by
  by_cases h5 : y.kind = 5
  · cases y with
    | mk k' n' l' =>
      simp only [Tp.T.kind] at h5
      subst h5
      obtain ⟨rfl, rfl⟩ := Tp.right_dyn hy
      have hot : ∀ j, other (.mk 5 0 []) j = .mk 5 0 [] := fun j => by simp [other, Tp.T.kind]
      cases x with
      | mk k n l =>
        rcases Tp.right_shape hx with ⟨rfl, _⟩ | ⟨x, rfl, rfl, rfl, hx1⟩ | ⟨x1, x2, rfl, rfl | rfl, rfl, hx1, hx2⟩
        · simp [Tp.T.kids, stk, ssz, wtC, Tp.size, Tp.sizes]
        · simp [Tp.T.kids, stk, ssz, wtC, Tp.size, Tp.sizes, kidC, Tp.T.kind, hot]
        · have := Tp.size_pos x1; have := Tp.size_pos x2
          simp [Tp.T.kids, stk, ssz, wtC, Tp.size, Tp.sizes, kidC, Tp.T.kind, hot]; omega
        · have := Tp.size_pos x1; have := Tp.size_pos x2
          simp [Tp.T.kids, stk, ssz, wtC, Tp.size, Tp.sizes, kidC, Tp.T.kind, hot]; omega
  · have hot : ∀ j, other y j = y.kids.getD j nilT := fun j => by simp [other, h5]
    have hk : x.kind = y.kind := by simp only [fits, h5, if_false, Bool.and_eq_true, decide_eq_true_eq] at hf; exact hf.1
    rcases Tp.two_shape hx hy hk with ⟨k, n, n', _, _, _, rfl, rfl⟩ | ⟨x, y, rfl, rfl, _⟩ | ⟨x1, x2, y1, y2, rfl, rfl, _⟩ | ⟨x1, x2, y1, y2, rfl, rfl, _⟩
    · simp [Tp.T.kids, stk, ssz, wtC, Tp.size, Tp.sizes]
    · have := Tp.size_pos x; have := Tp.size_pos y
      simp [Tp.T.kids, stk, ssz, wtC, Tp.size, Tp.sizes, kidC, Tp.T.kind, hot]; omega
    · have := Tp.size_pos x1; have := Tp.size_pos x2; have := Tp.size_pos y1; have := Tp.size_pos y2
      simp [Tp.T.kids, stk, ssz, wtC, Tp.size, Tp.sizes, kidC, Tp.T.kind, hot]; omega
    · have := Tp.size_pos x1; have := Tp.size_pos x2; have := Tp.size_pos y1; have := Tp.size_pos y2
      simp [Tp.T.kids, stk, ssz, wtC, Tp.size, Tp.sizes, kidC, Tp.T.kind, hot]; omega
end Go.Proofs.Ytafekidkikfpcaa

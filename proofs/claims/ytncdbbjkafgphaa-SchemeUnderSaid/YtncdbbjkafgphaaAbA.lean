/- The law AgreeBoth: its walk. -/
import Derived.Test.YtncdbbjkafgphaaAgW
namespace Go.Proofs.Ytncdbbjkafgphaa
open Go Go.RowKit
open Tp (T)

theorem ok_comm (t u : T) : Tp.ok t u = Tp.ok u t := by
  unfold Tp.ok
  cases h1 : Tp.right t <;> cases h2 : Tp.right u <;> simp
  exact Tp.agree_comm t u h1 h2
theorem ok_parts {t u : T} (h : Tp.ok t u = true) : Tp.right t = true ∧ Tp.right u = true ∧ Tp.agree t u = true := by
  unfold Tp.ok at h; simp only [Bool.and_eq_true] at h; exact ⟨h.1.1, h.1.2, h.2⟩
theorem Mt_comm (t u : T) : Mt t u = Mt u t := by
  unfold Mt
  rw [ok_comm u t]
  split
  · rename_i h
    obtain ⟨h1, h2, h3⟩ := ok_parts h
    exact Tp.meet_comm t u h1 h2 h3
  · rfl
theorem ok_self {t : T} (h : Tp.right t = true) : Tp.ok t t = true := by unfold Tp.ok; rw [h, Tp.agree_self t h]; rfl
theorem Mt_self {t : T} (h : Tp.right t = true) : Mt t t = t := by unfold Mt; rw [if_pos (ok_self h), Tp.meet_self]
/-- What the laws first ask: two right types, not too great. -/
theorem pair_right {t u : T} (h : (!decide (600 < Tp.sizes [t, u]) && Tp.rights [t, u]) = true) : Tp.right t = true ∧ Tp.right u = true ∧ Tp.size t + Tp.size u ≤ 600 := by
  by_cases hc : 600 < Tp.sizes [t, u]
  · rw [decide_eq_true hc] at h; simp at h
  · rw [decide_eq_false hc] at h
    simp only [Bool.not_false, Bool.true_and, Tp.rights, Bool.and_eq_true] at h
    simp only [Tp.sizes] at hc
    exact ⟨h.1, h.2.1, by omega⟩

end Go.Proofs.Ytncdbbjkafgphaa

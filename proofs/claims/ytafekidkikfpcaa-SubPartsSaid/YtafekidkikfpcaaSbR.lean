/- What the laws of stage 10 ask, plainly. -/
import Derived.Test.YtafekidkikfpcaaSbQ
namespace Go.Proofs.Ytafekidkikfpcaa.Tp
/-- A relation, as the program answers. -/
def sb (m : Md) (a b : T) : Bool := right a && right b && sd m a b
theorem sb_right {m : Md} {a b : T} (ha : right a = true) (hb : right b = true) : sb m a b = sd m a b := by unfold sb; rw [ha, hb]; rfl
theorem sub_law_both {a b : T} (ha : right a = true) (hb : right b = true) : sb .s a b = (sb .p a b && sb .n a b) := by
  rw [sb_right ha hb, sb_right ha hb, sb_right ha hb]; exact sd_both _ a b (Nat.le_refl _) ha hb
theorem sub_law_below {a b : T} (ha : right a = true) (hb : right b = true) : bl a b = (sb .p a b && sb .n b a) := by
  have e : bl a b = below a b := by unfold bl; rw [ha, hb]; rfl
  rw [e, sb_right ha hb, sb_right hb ha]; exact sd_below _ a b (Nat.le_refl _) ha hb
theorem sub_law_refl {a : T} (ha : right a = true) (m : Md) : sb m a a = true := by rw [sb_right ha ha]; exact sd_refl _ a (Nat.le_refl _) ha m
theorem sub_law_trans {a b c : T} (ha : right a = true) (hb : right b = true) (hc : right c = true) (h1 : sb .s a b = true) (h2 : sb .s b c = true) : sb .s a c = true := by
  rw [sb_right ha hb] at h1; rw [sb_right hb hc] at h2; rw [sb_right ha hc]; exact sub_trans _ a b c (Nat.le_refl _) ha hb hc h1 h2
theorem sub_law_anti {a b : T} (ha : right a = true) (hb : right b = true) (h1 : sb .s a b = true) (h2 : sb .s b a = true) : same a b = true := by
  rw [sb_right ha hb] at h1; rw [sb_right hb ha] at h2; rw [sub_anti _ a b (Nat.le_refl _) ha hb h1 h2]; exact same_refl b
theorem right_fun {a b : T} (ha : right a = true) (hb : right b = true) : right (.mk 9 0 [a, b]) = true ∧ right (.mk 7 0 [a, b]) = true ∧ right (.mk 8 0 [a]) = true := by
  refine ⟨?_, ?_, ?_⟩ <;> simp [right, rights, nodeRight, arity, ha, hb]
theorem sub_law_parts {a b c d : T} (ha : right a = true) (hb : right b = true) (hc : right c = true) (hd : right d = true) :
    sb .p (.mk 9 0 [a, b]) (.mk 9 0 [c, d]) = (sb .n c a && sb .p b d) ∧ sb .n (.mk 9 0 [a, b]) (.mk 9 0 [c, d]) = (sb .p c a && sb .n b d) ∧ sb .s (.mk 9 0 [a, b]) (.mk 9 0 [c, d]) = (sb .s c a && sb .s b d) ∧
    sb .p (.mk 7 0 [a, b]) (.mk 7 0 [c, d]) = (sb .p a c && sb .p b d) ∧ sb .n (.mk 8 0 [a]) (.mk 8 0 [c]) = sb .n a c ∧ sb .s (.mk 9 0 [a, b]) (.mk 7 0 [c, d]) = false := by
  obtain ⟨f1, f2, f3⟩ := right_fun ha hb
  obtain ⟨g1, g2, g3⟩ := right_fun hc hd
  rw [sb_right f1 g1, sb_right f1 g1, sb_right f1 g1, sb_right f2 g2, sb_right f3 g3, sb_right f1 g2, sd_fun, sd_fun, sd_fun, sd_pair, sd_list, sb_right hc ha, sb_right hc ha, sb_right hc ha, sb_right hb hd, sb_right hb hd, sb_right hb hd, sb_right ha hc, sb_right ha hc]
  refine ⟨rfl, rfl, rfl, rfl, rfl, sd_ne ?_ ?_ ?_ _⟩ <;> simp only [T.kind] <;> omega
theorem right_q : right (.mk 5 0 []) = true := by simp [right, rights, nodeRight, arity]
theorem sub_law_dyn {a : T} (ha : right a = true) : sb .p a (.mk 5 0 []) = true ∧ sb .n (.mk 5 0 []) a = true ∧ sb .p (.mk 5 0 []) a = decide (a.kind = 5) := by
  rw [sb_right ha right_q, sb_right right_q ha, sb_right right_q ha]
  refine ⟨(sd_dyn ha right_q rfl).1, ?_, ?_⟩
  · by_cases h5 : a.kind = 5
    · rw [(sd_dyn right_q ha h5).2.1]; exact dsub_dyn rfl
    · exact (sd_dynl right_q rfl h5).2.1
  · by_cases h5 : a.kind = 5
    · rw [(sd_dyn right_q ha h5).1, decide_eq_true h5]
    · rw [(sd_dynl right_q rfl h5).1, decide_eq_false h5]
theorem sub_law_static {a b : T} (ha : right a = true) (hb : right b = true) (wa : without 5 a = true) (wb : without 5 b = true) (m : Md) : sb m a b = same a b := by
  rw [sb_right ha hb]; exact sd_static _ a b (Nat.le_refl _) ha hb wa wb m
theorem sub_law_agree {a b : T} (ha : right a = true) (hb : right b = true) (wa : without 6 a = true) (wb : without 6 b = true) (h : (sb .p a b || sb .n a b) = true) : agree a b = true := by
  rw [sb_right ha hb, sb_right ha hb, Bool.or_eq_true] at h
  rcases h with h | h
  · exact sd_agree _ a b (Nat.le_refl _) ha hb wa wb _ h
  · exact sd_agree _ a b (Nat.le_refl _) ha hb wa wb _ h
end Go.Proofs.Ytafekidkikfpcaa.Tp

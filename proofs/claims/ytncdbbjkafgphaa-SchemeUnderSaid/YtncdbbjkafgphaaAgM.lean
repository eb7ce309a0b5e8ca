/- The tree of a meet while it is made: what lies where, and what will have come of it. -/
import Derived.Test.YtncdbbjkafgphaaAgB
namespace Go.Proofs.Ytncdbbjkafgphaa
open Go Go.RowKit Go.Shelf
open Tp (T)

/-- A place that is still to come: where the node of a lies, and the two types. -/
structure Pn where
  b : Nat
  o : Nat
  x : T
  y : T
def pos : Nat → Nat → List T → List T → List Pn
  | b, o, x :: xs, y :: ys => ⟨b, o, x, y⟩ :: pos b (o + 3) xs ys
  | _, _, _, _ => []
def pend (s : List En) : List Pn := s.flatMap fun e => pos e.xb e.xo (e.x :: e.xs) (e.y :: e.ys)
theorem pend_app (r s : List En) : pend (r ++ s) = pend r ++ pend s := by simp [pend]
theorem pend_cons (e : En) (r : List En) : pend (e :: r) = ⟨e.xb, e.xo, e.x, e.y⟩ :: pend (e.next ++ r) := by
  obtain ⟨x, y, xs, ys, xb, xo, xc, yb, yo, yc⟩ := e
  cases xs with
  | nil => simp [pend, pos, En.next]
  | cons a xs =>
    cases ys with
    | nil => simp [pend, pos, En.next]
    | cons c ys => simp [pend, pos, En.next]
theorem pend_new (e : En) (r : List En) : pend (e :: r) = pos e.xb e.xo (e.x :: e.xs) (e.y :: e.ys) ++ pend r := by simp [pend]
theorem pos_mem : ∀ (xs ys : List T) (b o : Nat) (p : Pn), p ∈ pos b o xs ys → p.b = b ∧ ∃ i, ∃ h : i < xs.length, ∃ h' : i < ys.length, p = ⟨b, o + i * 3, xs[i], ys[i]⟩
  | [], _, _, _, _, h => by simp [pos] at h
  | _ :: _, [], _, _, _, h => by simp [pos] at h
  | x :: xs, y :: ys, b, o, p, h => by
    simp only [pos, List.mem_cons] at h
    rcases h with rfl | h
    · exact ⟨rfl, 0, by simp, by simp, by simp⟩
    · obtain ⟨h1, i, h2, h3, h4⟩ := pos_mem xs ys b (o + 3) p h
      refine ⟨h1, i + 1, by simp; omega, by simp; omega, ?_⟩
      rw [h4]
      simp only [List.getElem_cons_succ, Pn.mk.injEq, and_true, true_and]
      omega
theorem pos_get : ∀ (xs ys : List T) (b o i : Nat) (h : i < xs.length) (h' : i < ys.length), (⟨b, o + i * 3, xs[i], ys[i]⟩ : Pn) ∈ pos b o xs ys
  | [], _, _, _, _, h, _ => by simp at h
  | _ :: _, [], _, _, _, _, h => by simp at h
  | x :: xs, y :: ys, b, o, 0, _, _ => by simp [pos]
  | x :: xs, y :: ys, b, o, i + 1, h, h' => by
    simp only [pos, List.mem_cons]
    right
    have := pos_get xs ys b (o + 3) i (by simpa using h) (by simpa using h')
    simp only [List.getElem_cons_succ]
    rw [show o + (i + 1) * 3 = o + 3 + i * 3 from by omega]
    exact this
def Pn.off (p q : Pn) : Prop := p.b ≠ q.b ∨ p.o + 3 ≤ q.o ∨ q.o + 3 ≤ p.o
def Pn.has (p : Pn) (b o : Nat) : Prop := p.b = b ∧ p.o ≤ o ∧ o < p.o + 3
theorem pos_off : ∀ (xs ys : List T) (b o : Nat), (pos b o xs ys).Pairwise Pn.off
  | [], _, _, _ => by simp [pos]
  | _ :: _, [], _, _ => by simp [pos]
  | x :: xs, y :: ys, b, o => by
    simp only [pos, List.pairwise_cons]
    refine ⟨fun q hq => ?_, pos_off xs ys b (o + 3)⟩
    obtain ⟨_, i, _, _, rfl⟩ := pos_mem xs ys b (o + 3) q hq
    exact .inr (.inl (by dsimp only; omega))
/-- A node of a as it lies in V, its kids as they lay in W. -/
def XAt (G : Nat → Prop) (W V : World) (x : T) (b o : Nat) : Prop := ∃ a cap, TyAt G W x a cap ∧ V.cell? ⟨b, o, none⟩ = some (.int .i64 x.kind) ∧ V.cell? ⟨b, o + 1, none⟩ = some (.int .i64 x.num) ∧ V.cell? ⟨b, o + 2, none⟩ = some (.slice a x.kids.length cap)
/-- What stays as it is while the places ps are written. -/
def Ext (G Ow : Nat → Prop) (ps : List Pn) (V V' : World) : Prop := ∀ b o, (G b ∨ Ow b) → (∀ p ∈ ps, ¬ p.has b o) → V'.cell? ⟨b, o, none⟩ = V.cell? ⟨b, o, none⟩
structure MInv (G H : Nat → Prop) (W : World) (R : T) (mb : Nat) (Ow : Nat → Prop) (ps : List Pn) (V : World) : Prop where
  own : ∀ p ∈ ps, Ow p.b
  apart : ∀ k, Ow k → ¬ G k
  keep : ∀ b o, G b → V.cell? ⟨b, o, none⟩ = W.cell? ⟨b, o, none⟩
  lies : ∀ p ∈ ps, XAt G W V p.x p.b p.o
  dis : ps.Pairwise Pn.off
  fin : ∀ V', Ext G Ow ps V V' → (∀ p ∈ ps, NodeAt H V' (Tp.meet p.x p.y) p.b p.o) → NodeAt H V' R mb 0
theorem off_has {p q : Pn} (h : p.off q) (i : Nat) (hi : i < 3) : ¬ p.has q.b (q.o + i) := fun hh => by
  obtain ⟨h1, h2, h3⟩ := hh
  rcases h with h | h | h
  · exact h h1
  · omega
  · omega
theorem has_off {p q : Pn} (h : p.off q) (i : Nat) (hi : i < 3) : ¬ q.has p.b (p.o + i) := fun hh => by
  obtain ⟨h1, h2, h3⟩ := hh
  rcases h with h | h | h
  · exact h h1.symm
  · omega
  · omega
theorem XAt.moved {G : Nat → Prop} {W A B : World} {x : T} {b o : Nat} (h : XAt G W A x b o) (hc : ∀ i, i < 3 → B.cell? ⟨b, o + i, none⟩ = A.cell? ⟨b, o + i, none⟩) : XAt G W B x b o := by
  obtain ⟨a, cap, h1, h2, h3, h4⟩ := h
  exact ⟨a, cap, h1, (hc 0 (by omega)).trans h2, (hc 1 (by omega)).trans h3, (hc 2 (by omega)).trans h4⟩
/-- The world moves on elsewhere. -/
theorem MInv.moved {G H : Nat → Prop} {W : World} {R : T} {mb : Nat} {Ow : Nat → Prop} {ps : List Pn} {V B : World} (h : MInv G H W R mb Ow ps V) (hc : ∀ b o, (G b ∨ Ow b) → B.cell? ⟨b, o, none⟩ = V.cell? ⟨b, o, none⟩) : MInv G H W R mb Ow ps B :=
  ⟨h.own, h.apart, fun b o hb => (hc b o (.inl hb)).trans (h.keep b o hb), fun p hp => (h.lies p hp).moved fun _ _ => hc _ _ (.inr (h.own p hp)), h.dis,
    fun V' he hl => h.fin V' (fun b o hb hn => (he b o hb hn).trans (hc b o hb)) hl⟩
/-- The first place is done. -/
theorem MInv.done {G H : Nat → Prop} {W : World} {R : T} {mb : Nat} {Ow : Nat → Prop} {p0 : Pn} {ps : List Pn} {V B : World} (h : MInv G H W R mb Ow (p0 :: ps) V) (hk : ∀ b o, (G b ∨ Ow b) → ¬ p0.has b o → B.cell? ⟨b, o, none⟩ = V.cell? ⟨b, o, none⟩)
    (hl : ∀ V', Ext G Ow ps B V' → NodeAt H V' (Tp.meet p0.x p0.y) p0.b p0.o) : MInv G H W R mb Ow ps B := by
  have hd := List.pairwise_cons.1 h.dis
  have hp0 := h.own p0 (by simp)
  refine ⟨fun p hp => h.own p (List.mem_cons_of_mem _ hp), h.apart, fun b o hb => ?_, fun p hp => ?_, hd.2, fun V' he hn => ?_⟩
  · exact (hk b o (.inl hb) (fun hh => h.apart _ hp0 (by rw [hh.1]; exact hb))).trans (h.keep b o hb)
  · exact (h.lies p (List.mem_cons_of_mem _ hp)).moved fun i hi => hk _ _ (.inr (h.own p (List.mem_cons_of_mem _ hp))) (off_has (hd.1 p hp) i hi)
  · refine h.fin V' (fun b o hb hnp => ?_) (fun p hp => ?_)
    · exact (he b o hb (fun p hp => hnp p (List.mem_cons_of_mem _ hp))).trans (hk b o hb (hnp p0 (by simp)))
    · rcases List.mem_cons.1 hp with rfl | hp
      · exact hl V' he
      · exact hn p hp
/-- The first place has its own kids now, in a new block. -/
theorem MInv.push {G H : Nat → Prop} {W : World} {R : T} {mb : Nat} {Ow : Nat → Prop} {p0 : Pn} {ps qs : List Pn} {V B : World} {kb : Nat} (h : MInv G H W R mb Ow (p0 :: ps) V) (hk : ∀ b o, (G b ∨ Ow b) → ¬ p0.has b o → B.cell? ⟨b, o, none⟩ = V.cell? ⟨b, o, none⟩)
    (hkb : ¬ Ow kb) (hkg : ¬ G kb) (hq : ∀ q ∈ qs, q.b = kb ∧ XAt G W B q.x q.b q.o) (hqd : qs.Pairwise Pn.off)
    (hl : ∀ V', Ext G (fun k => Ow k ∨ k = kb) (qs ++ ps) B V' → (∀ q ∈ qs, NodeAt H V' (Tp.meet q.x q.y) q.b q.o) → NodeAt H V' (Tp.meet p0.x p0.y) p0.b p0.o) : MInv G H W R mb (fun k => Ow k ∨ k = kb) (qs ++ ps) B := by
  have hd := List.pairwise_cons.1 h.dis
  have hp0 := h.own p0 (by simp)
  have hps : ∀ p ∈ ps, Ow p.b := fun p hp => h.own p (List.mem_cons_of_mem _ hp)
  refine ⟨fun p hp => ?_, fun k hk hg => ?_, fun b o hb => ?_, fun p hp => ?_, ?_, fun V' he hn => ?_⟩
  · exact (List.mem_append.1 hp).elim (fun hp => .inr (hq p hp).1) (fun hp => .inl (hps p hp))
  · exact hk.elim (fun hk => h.apart k hk hg) (fun hk => hkg (hk ▸ hg))
  · exact (hk b o (.inl hb) (fun hh => h.apart _ hp0 (by rw [hh.1]; exact hb))).trans (h.keep b o hb)
  · rcases List.mem_append.1 hp with hp | hp
    · exact (hq p hp).2
    · exact (h.lies p (List.mem_cons_of_mem _ hp)).moved fun i hi => hk _ _ (.inr (hps p hp)) (off_has (hd.1 p hp) i hi)
  · rw [List.pairwise_append]
    exact ⟨hqd, hd.2, fun q hq' p hp => .inl (fun e => hkb (by rw [← (hq q hq').1, e]; exact hps p hp))⟩
  · refine h.fin V' (fun b o hb hnp => ?_) (fun p hp => ?_)
    · refine (he b o (hb.imp id .inl) (fun p hp => ?_)).trans (hk b o hb (hnp p0 (by simp)))
      rcases List.mem_append.1 hp with hp | hp
      · intro hh
        have e : b = kb := hh.1.symm.trans (hq p hp).1
        exact hb.elim (fun hb => hkg (e ▸ hb)) (fun hb => hkb (e ▸ hb))
      · exact hnp p (List.mem_cons_of_mem _ hp)
    · rcases List.mem_cons.1 hp with rfl | hp
      · exact hl V' he (fun q hq' => hn q (List.mem_append_left _ hq'))
      · exact hn p (List.mem_append_right _ hp)
/-- A node that nobody writes any more lies there, whatever comes. -/
theorem XAt.stays {G H Ow : Nat → Prop} {W B V' : World} {ps : List Pn} {p : Pn} {m : T} (hGH : ∀ k, G k → H k) (h : XAt G W B m p.b p.o) (hkeep : ∀ b o, G b → B.cell? ⟨b, o, none⟩ = W.cell? ⟨b, o, none⟩) (hp : Ow p.b) (hps : ∀ q ∈ ps, Ow q.b) (hap : ∀ k, Ow k → ¬ G k) (hd : ∀ q ∈ ps, p.off q) (he : Ext G Ow ps B V') : NodeAt H V' m p.b p.o := by
  obtain ⟨a, cap, h1, h2, h3, h4⟩ := h
  have hc : ∀ i, i < 3 → V'.cell? ⟨p.b, p.o + i, none⟩ = B.cell? ⟨p.b, p.o + i, none⟩ := fun i hi => he _ _ (.inr hp) (fun q hq => has_off (hd q hq) i hi)
  have hg : ∀ b o, G b → V'.cell? ⟨b, o, none⟩ = W.cell? ⟨b, o, none⟩ := fun b o hb => (he b o (.inl hb) (fun q hq hh => hap _ (hps q hq) (by rw [hh.1]; exact hb))).trans (hkeep b o hb)
  exact NodeAt.mk' ⟨h1.1, h1.2.1, h1.2.2.1, h1.2.2.2.1, KidsAt.mono hg hGH _ _ h1.2.2.2.2⟩ ((hc 0 (by omega)).trans h2) ((hc 1 (by omega)).trans h3) ((hc 2 (by omega)).trans h4)
/-- A row of types as cells. -/
theorem kids_news {G : Nat → Prop} {W : World} : ∀ (l : List T) (b o : Nat), KidsAt G W l (some ⟨b, o, none⟩) → ∃ news : List Value, news.length = l.length * 3 ∧ (∀ j u, news[j]? = some u → W.cell? ⟨b, o + j, none⟩ = some u) ∧ (∀ u ∈ news, u.oneCell' = true) ∧
      ∀ i (h : i < l.length), ∃ a cap, TyAt G W l[i] a cap ∧ news[i * 3]? = some (.int .i64 l[i].kind) ∧ news[i * 3 + 1]? = some (.int .i64 l[i].num) ∧ news[i * 3 + 2]? = some (.slice a l[i].kids.length cap)
  | [], b, o, _ => ⟨[], rfl, (fun j u h => by simp at h), (fun u h => by cases h), (fun i h => by simp at h)⟩
  | t :: r, b, o, h => by
    obtain ⟨b', o', h1, h2, h3, h4⟩ := h.head
    injection h1 with h1
    injection h1 with e1 e2 e3
    subst e1 e2
    obtain ⟨a, cap, q1, q2, q3, q4⟩ := h3.ty
    obtain ⟨news, n1, n2, n3, n4⟩ := kids_news r b (o + 3) h4
    refine ⟨.int .i64 t.kind :: .int .i64 t.num :: .slice a t.kids.length cap :: news, by simp [n1]; omega, fun j u hj => ?_, fun u hu => ?_, fun i hi => ?_⟩
    · match j with
      | 0 => simp only [List.getElem?_cons_zero, Option.some.injEq] at hj; subst hj; exact q2
      | 1 => simp only [List.getElem?_cons_succ, List.getElem?_cons_zero, Option.some.injEq] at hj; subst hj; exact q3
      | 2 => simp only [List.getElem?_cons_succ, List.getElem?_cons_zero, Option.some.injEq] at hj; subst hj; exact q4
      | j + 3 =>
        simp only [List.getElem?_cons_succ] at hj
        have := n2 j u hj
        rw [show o + (j + 3) = o + 3 + j from by omega]
        exact this
    · simp only [List.mem_cons] at hu
      rcases hu with rfl | rfl | rfl | hu
      · rfl
      · rfl
      · rfl
      · exact n3 u hu
    · match i with
      | 0 => exact ⟨a, cap, q1, by simp, by simp, by simp⟩
      | i + 1 =>
        obtain ⟨a', cap', r1, r2, r3, r4⟩ := n4 i (by simpa using hi)
        refine ⟨a', cap', r1, ?_, ?_, ?_⟩
        · rw [show (i + 1) * 3 = i * 3 + 1 + 1 + 1 from by omega]; simpa using r2
        · rw [show (i + 1) * 3 + 1 = i * 3 + 1 + 1 + 1 + 1 from by omega]; simpa using r3
        · rw [show (i + 1) * 3 + 2 = i * 3 + 2 + 1 + 1 + 1 from by omega]; simpa using r4
end Go.Proofs.Ytncdbbjkafgphaa

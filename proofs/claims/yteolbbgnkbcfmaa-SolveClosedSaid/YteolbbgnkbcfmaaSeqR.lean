/- A region that draws its order, walked once in one order that is named, over a relation of worlds of the prover's own: what it stores, too.
   Conditions: the plan is one of the region's own orders, and each call stands alone when it comes up (a Bool that the kernel runs). -/
import Derived.OrdersHeld
import Derived.Deep.QuietTactic
import Derived.Below
namespace Go.Proofs.Yteolbbgnkbcfmaa
open Go Go.RowKit

section
variable {P : Program} {ops : Array Oper} {Q : Exit → Act → World → Prop} {R : World → World → Prop}

/-- It leaves one value, in every world that is later than this one. -/
def calmR (P : Program) (R : World → World → Prop) (o : Oper) (a : Act) (w : World) (K : Act → World → Prop) : Prop :=
  ∃ v, (∀ x, R w x → (execOp a.eval o).run P x = .ok (.value v) x) ∧ K (a.put o.dst v) w
/-- One operation of the plan: a call, or what only reads. -/
def relOp (P : Program) (R : World → World → Prop) (ops : Array Oper) (Q : Exit → Act → World → Prop) (c : Bool) (o : Oper) (a : Act) (w : World) (K : Act → World → Prop) : Prop :=
  if Region.wanted o (yielded ops a.tmps) then
    (match c with
      | true => o.wp P a w (fun a' w' => R w w' ∧ K a' w') Q
      | false => calmR P R o a w K)
  else K (a.put o.dst undef) w
/-- The walk of a plan: places in what is left, and which are calls. -/
def wpRel (P : Program) (R : World → World → Prop) (ops : Array Oper) (Q : Exit → Act → World → Prop) : List (Nat × Bool) → List Oper → Act → World → Prop
  | [], _, a, w => Q .normal a w
  | (p, c) :: ps, l, a, w => match l[p]? with
    | none => False
    | some o => relOp P R ops Q c o a w (wpRel P R ops Q ps (l.eraseIdx p))
/-- The plan is one of the region's orders. -/
def relB (ops : Array Oper) : List (Nat × Bool) → List Nat → Array Bool → Bool
  | [], _, listed => (Region.ready .any ops listed).isEmpty
  | (p, c) :: ps, rem, listed => match rem[p]? with
    | none => false
    | some k => (if c then Region.ready .any ops listed == [k] else (Region.ready .any ops listed).contains k && Region.free .any ops listed k) && relB ops ps (rem.eraseIdx p) (listed.setIfInBounds k true)

theorem heldWeakR {S S' : World → Prop} {md : Region.Mode} (hS : ∀ w, S' w → S w) : ∀ (fuel : Nat) (listed : Array Bool) (a : Act) (w : World), wpAnyH P md ops Q S' fuel listed a w → wpAnyH P md ops Q S fuel listed a w
  | 0, _, _, _, h => h
  | fuel + 1, _, _, _, h => ⟨h.1, fun i hi => wpOp_mono (fun a' w' h' => ⟨hS w' h'.1, heldWeakR hS fuel _ a' w' h'.2⟩) (h.2 i hi)⟩

theorem erase_map {α β : Type} (f : α → β) : ∀ (l : List α) (p : Nat), (l.eraseIdx p).map f = (l.map f).eraseIdx p
  | [], _ => rfl
  | _ :: _, 0 => rfl
  | x :: l, p + 1 => by simp [List.eraseIdx, erase_map f l p]

theorem held_of_rel (hrefl : ∀ w, R w w) (htrans : ∀ {a b c}, R a b → R b c → R a c) (hs : Region.noSelect ops = true) (hQ : ∀ c a w (d : Option Tmp) (v : Value), Q (.panic c) (a.put d v) w → Q (.panic c) a w) :
    ∀ (plan : List (Nat × Bool)) (rem : List Nat) (l : List Oper) (listed : Array Bool) (a : Act) (w : World) (fuel : Nat), rem.map (fun k => ops[k]?) = l.map some → plan.length ≤ fuel →
      relB ops plan rem listed = true → wpRel P R ops Q plan l a w → wpAnyH P .any ops Q (R w) fuel listed a w
  | [], rem, l, listed, a, w, fuel, _, _, hB, h => by
    simp only [relB, List.isEmpty_iff] at hB
    exact wpAnyH_done hB h fuel
  | (p, c) :: ps, rem, l, listed, a, w, 0, _, hf, _, _ => by simp at hf
  | (p, c) :: ps, rem, l, listed, a, w, fuel + 1, hl, hf, hB, h => by
    have hf' : ps.length ≤ fuel := by simpa using hf
    simp only [relB] at hB
    simp only [wpRel] at h
    cases hk : rem[p]? with
    | none => rw [hk] at hB; cases hB
    | some k =>
      rw [hk] at hB
      have hlp : (rem.map (fun k => ops[k]?))[p]? = (l.map some)[p]? := by rw [hl]
      rw [List.getElem?_map, List.getElem?_map, hk] at hlp
      cases ho : l[p]? with
      | none => rw [ho] at h; exact h.elim
      | some o =>
        rw [ho] at h hlp
        have hko : ops[k]? = some o := by simpa using hlp
        have hl' : (rem.eraseIdx p).map (fun k => ops[k]?) = (l.eraseIdx p).map some := by rw [erase_map, erase_map, hl]
        simp only [Bool.and_eq_true] at hB
        obtain ⟨hB1, hB2⟩ := hB
        simp only [relOp] at h
        cases c with
        | true =>
          have hr : Region.ready .any ops listed = [k] := by simpa using hB1
          refine wpAnyH_all hr (by simp) (fun i hi => ?_)
          have hik : i = k := by simpa using hi
          subst hik
          unfold wpOp
          simp only [hko]
          split
          · rename_i hw
            simp only [hw, if_true] at h
            refine .inl (Oper.wp_mono (fun a' w' h' => ⟨h'.1, ?_⟩) h)
            exact heldWeakR (fun x hx => htrans h'.1 hx) _ _ _ _ (held_of_rel hrefl htrans hs hQ ps _ _ _ _ _ fuel hl' hf' hB2 h'.2)
          · rename_i hw
            simp only [hw] at h
            exact ⟨hrefl _, held_of_rel hrefl htrans hs hQ ps _ _ _ _ _ fuel hl' hf' hB2 h⟩
        | false =>
          simp only [Bool.false_eq_true, if_false, Bool.and_eq_true] at hB1
          by_cases hw : Region.wanted o (yielded ops a.tmps) = true
          · simp only [hw, if_true, calmR] at h
            obtain ⟨v, hv, hn⟩ := h
            exact wpAnyH_take hko hs hB1.2 hB1.1 (fun c a w => hQ c a w _ _) (.inl ⟨hw, hv⟩) (hrefl _) (held_of_rel hrefl htrans hs hQ ps _ _ _ _ _ fuel hl' hf' hB2 hn)
          · simp only [hw] at h
            exact wpAnyH_take hko hs hB1.2 hB1.1 (fun c a w => hQ c a w _ _) (.inr ⟨by simpa using hw, rfl⟩) (hrefl _) (held_of_rel hrefl htrans hs hQ ps _ _ _ _ _ fuel hl' hf' hB2 h)

/-- **One walk, in the order of the plan, serves every order.** -/
theorem wp_region_rel (hrefl : ∀ w, R w w) (htrans : ∀ {a b c}, R a b → R b c → R a c) {id : Nat} {a : Act} {w : World} {l : List Oper} (plan : List (Nat × Bool)) (hm : P.follows .mixedOrders = true) (hs : Region.noSelect l.toArray = true)
    (hB : (decide (plan.length ≤ l.length) && relB l.toArray plan (List.range l.length) (Array.replicate l.length false)) = true) (hQ : ∀ c a w (d : Option Tmp) (v : Value), Q (.panic c) (a.put d v) w → Q (.panic c) a w)
    (h : wpRel P R l.toArray Q plan l a w.drew) : (Code.region id l.toArray true).wp P Q a w := by
  rw [Bool.and_eq_true, decide_eq_true_iff] at hB
  refine wp_region_held hm (S := R w.drew) ?_
  have hl : (List.range l.length).map (fun k => l.toArray[k]?) = l.map some := by
    refine List.ext_getElem (by simp) (fun i h1 h2 => ?_)
    simp only [List.length_map, List.length_range] at h1
    simp [h1]
  have := held_of_rel (P := P) hrefl htrans hs hQ plan (List.range l.length) l (Array.replicate l.length false) a w.drew l.toArray.size hl (by simpa using hB.1) hB.2 h
  simpa using this

/-- What is not wanted is passed over. -/
theorem relOp_skip {c : Bool} {o : Oper} {a : Act} {w : World} {K : Act → World → Prop} (hw : Region.wanted o (yielded ops a.tmps) = false) (h : K (a.put o.dst undef) w) : relOp P R ops Q c o a w K := by
  unfold relOp; rw [hw]; exact h
/-- One operation at a time, what follows behind a variable: by its place in what is left ('sp': what only reads; 'sc': a call). -/
theorem rel_nil {l : List Oper} {a : Act} {w : World} (h : Q .normal a w) : wpRel P R ops Q [] l a w := h
theorem rp0 {ps : List (Nat × Bool)} {o : Oper} {l : List Oper} {a : Act} {w : World}
    (h : ∀ K : Act → World → Prop, (∀ a w, wpRel P R ops Q ps (l) a w → K a w) → if Region.wanted o (yielded ops a.tmps) then (∃ v, (∀ x, R w x → (execOp a.eval o).run P x = .ok (.value v) x) ∧ K (a.put o.dst v) w) else K (a.put o.dst undef) w) : wpRel P R ops Q ((0, false) :: ps) (o :: l) a w := h _ (fun _ _ h => h)
theorem rc0 {ps : List (Nat × Bool)} {o : Oper} {l : List Oper} {a : Act} {w : World}
    (h : ∀ K : Act → World → Prop, (∀ a w, wpRel P R ops Q ps (l) a w → K a w) → if Region.wanted o (yielded ops a.tmps) then o.wp P a w (fun a' w' => R w w' ∧ K a' w') Q else K (a.put o.dst undef) w) : wpRel P R ops Q ((0, true) :: ps) (o :: l) a w := h _ (fun _ _ h => h)
theorem rp1 {ps : List (Nat × Bool)} {o x1 : Oper} {l : List Oper} {a : Act} {w : World}
    (h : ∀ K : Act → World → Prop, (∀ a w, wpRel P R ops Q ps (x1 :: l) a w → K a w) → if Region.wanted o (yielded ops a.tmps) then (∃ v, (∀ x, R w x → (execOp a.eval o).run P x = .ok (.value v) x) ∧ K (a.put o.dst v) w) else K (a.put o.dst undef) w) : wpRel P R ops Q ((1, false) :: ps) (x1 :: o :: l) a w := h _ (fun _ _ h => h)
theorem rc1 {ps : List (Nat × Bool)} {o x1 : Oper} {l : List Oper} {a : Act} {w : World}
    (h : ∀ K : Act → World → Prop, (∀ a w, wpRel P R ops Q ps (x1 :: l) a w → K a w) → if Region.wanted o (yielded ops a.tmps) then o.wp P a w (fun a' w' => R w w' ∧ K a' w') Q else K (a.put o.dst undef) w) : wpRel P R ops Q ((1, true) :: ps) (x1 :: o :: l) a w := h _ (fun _ _ h => h)
theorem rp2 {ps : List (Nat × Bool)} {o x1 x2 : Oper} {l : List Oper} {a : Act} {w : World}
    (h : ∀ K : Act → World → Prop, (∀ a w, wpRel P R ops Q ps (x1 :: x2 :: l) a w → K a w) → if Region.wanted o (yielded ops a.tmps) then (∃ v, (∀ x, R w x → (execOp a.eval o).run P x = .ok (.value v) x) ∧ K (a.put o.dst v) w) else K (a.put o.dst undef) w) : wpRel P R ops Q ((2, false) :: ps) (x1 :: x2 :: o :: l) a w := h _ (fun _ _ h => h)
theorem rc2 {ps : List (Nat × Bool)} {o x1 x2 : Oper} {l : List Oper} {a : Act} {w : World}
    (h : ∀ K : Act → World → Prop, (∀ a w, wpRel P R ops Q ps (x1 :: x2 :: l) a w → K a w) → if Region.wanted o (yielded ops a.tmps) then o.wp P a w (fun a' w' => R w w' ∧ K a' w') Q else K (a.put o.dst undef) w) : wpRel P R ops Q ((2, true) :: ps) (x1 :: x2 :: o :: l) a w := h _ (fun _ _ h => h)
theorem rp3 {ps : List (Nat × Bool)} {o x1 x2 x3 : Oper} {l : List Oper} {a : Act} {w : World}
    (h : ∀ K : Act → World → Prop, (∀ a w, wpRel P R ops Q ps (x1 :: x2 :: x3 :: l) a w → K a w) → if Region.wanted o (yielded ops a.tmps) then (∃ v, (∀ x, R w x → (execOp a.eval o).run P x = .ok (.value v) x) ∧ K (a.put o.dst v) w) else K (a.put o.dst undef) w) : wpRel P R ops Q ((3, false) :: ps) (x1 :: x2 :: x3 :: o :: l) a w := h _ (fun _ _ h => h)
theorem rc3 {ps : List (Nat × Bool)} {o x1 x2 x3 : Oper} {l : List Oper} {a : Act} {w : World}
    (h : ∀ K : Act → World → Prop, (∀ a w, wpRel P R ops Q ps (x1 :: x2 :: x3 :: l) a w → K a w) → if Region.wanted o (yielded ops a.tmps) then o.wp P a w (fun a' w' => R w w' ∧ K a' w') Q else K (a.put o.dst undef) w) : wpRel P R ops Q ((3, true) :: ps) (x1 :: x2 :: x3 :: o :: l) a w := h _ (fun _ _ h => h)
theorem rp4 {ps : List (Nat × Bool)} {o x1 x2 x3 x4 : Oper} {l : List Oper} {a : Act} {w : World}
    (h : ∀ K : Act → World → Prop, (∀ a w, wpRel P R ops Q ps (x1 :: x2 :: x3 :: x4 :: l) a w → K a w) → if Region.wanted o (yielded ops a.tmps) then (∃ v, (∀ x, R w x → (execOp a.eval o).run P x = .ok (.value v) x) ∧ K (a.put o.dst v) w) else K (a.put o.dst undef) w) : wpRel P R ops Q ((4, false) :: ps) (x1 :: x2 :: x3 :: x4 :: o :: l) a w := h _ (fun _ _ h => h)
theorem rc4 {ps : List (Nat × Bool)} {o x1 x2 x3 x4 : Oper} {l : List Oper} {a : Act} {w : World}
    (h : ∀ K : Act → World → Prop, (∀ a w, wpRel P R ops Q ps (x1 :: x2 :: x3 :: x4 :: l) a w → K a w) → if Region.wanted o (yielded ops a.tmps) then o.wp P a w (fun a' w' => R w w' ∧ K a' w') Q else K (a.put o.dst undef) w) : wpRel P R ops Q ((4, true) :: ps) (x1 :: x2 :: x3 :: x4 :: o :: l) a w := h _ (fun _ _ h => h)
theorem rp5 {ps : List (Nat × Bool)} {o x1 x2 x3 x4 x5 : Oper} {l : List Oper} {a : Act} {w : World}
    (h : ∀ K : Act → World → Prop, (∀ a w, wpRel P R ops Q ps (x1 :: x2 :: x3 :: x4 :: x5 :: l) a w → K a w) → if Region.wanted o (yielded ops a.tmps) then (∃ v, (∀ x, R w x → (execOp a.eval o).run P x = .ok (.value v) x) ∧ K (a.put o.dst v) w) else K (a.put o.dst undef) w) : wpRel P R ops Q ((5, false) :: ps) (x1 :: x2 :: x3 :: x4 :: x5 :: o :: l) a w := h _ (fun _ _ h => h)
theorem rc5 {ps : List (Nat × Bool)} {o x1 x2 x3 x4 x5 : Oper} {l : List Oper} {a : Act} {w : World}
    (h : ∀ K : Act → World → Prop, (∀ a w, wpRel P R ops Q ps (x1 :: x2 :: x3 :: x4 :: x5 :: l) a w → K a w) → if Region.wanted o (yielded ops a.tmps) then o.wp P a w (fun a' w' => R w w' ∧ K a' w') Q else K (a.put o.dst undef) w) : wpRel P R ops Q ((5, true) :: ps) (x1 :: x2 :: x3 :: x4 :: x5 :: o :: l) a w := h _ (fun _ _ h => h)
/-- What is not wanted. -/
theorem rk0 {c : Bool} {ps : List (Nat × Bool)} {o : Oper} {l : List Oper} {a : Act} {w : World} (hw : Region.wanted o (yielded ops a.tmps) = false)
    (h : ∀ K : Act → World → Prop, (∀ a w, wpRel P R ops Q ps (l) a w → K a w) → K (a.put o.dst undef) w) : wpRel P R ops Q ((0, c) :: ps) (o :: l) a w :=
  show relOp P R ops Q c o a w (wpRel P R ops Q ps (l)) from relOp_skip hw (h _ (fun _ _ h => h))
theorem rk1 {c : Bool} {ps : List (Nat × Bool)} {o x1 : Oper} {l : List Oper} {a : Act} {w : World} (hw : Region.wanted o (yielded ops a.tmps) = false)
    (h : ∀ K : Act → World → Prop, (∀ a w, wpRel P R ops Q ps (x1 :: l) a w → K a w) → K (a.put o.dst undef) w) : wpRel P R ops Q ((1, c) :: ps) (x1 :: o :: l) a w :=
  show relOp P R ops Q c o a w (wpRel P R ops Q ps (x1 :: l)) from relOp_skip hw (h _ (fun _ _ h => h))
theorem rk2 {c : Bool} {ps : List (Nat × Bool)} {o x1 x2 : Oper} {l : List Oper} {a : Act} {w : World} (hw : Region.wanted o (yielded ops a.tmps) = false)
    (h : ∀ K : Act → World → Prop, (∀ a w, wpRel P R ops Q ps (x1 :: x2 :: l) a w → K a w) → K (a.put o.dst undef) w) : wpRel P R ops Q ((2, c) :: ps) (x1 :: x2 :: o :: l) a w :=
  show relOp P R ops Q c o a w (wpRel P R ops Q ps (x1 :: x2 :: l)) from relOp_skip hw (h _ (fun _ _ h => h))
theorem rk3 {c : Bool} {ps : List (Nat × Bool)} {o x1 x2 x3 : Oper} {l : List Oper} {a : Act} {w : World} (hw : Region.wanted o (yielded ops a.tmps) = false)
    (h : ∀ K : Act → World → Prop, (∀ a w, wpRel P R ops Q ps (x1 :: x2 :: x3 :: l) a w → K a w) → K (a.put o.dst undef) w) : wpRel P R ops Q ((3, c) :: ps) (x1 :: x2 :: x3 :: o :: l) a w :=
  show relOp P R ops Q c o a w (wpRel P R ops Q ps (x1 :: x2 :: x3 :: l)) from relOp_skip hw (h _ (fun _ _ h => h))
theorem rk4 {c : Bool} {ps : List (Nat × Bool)} {o x1 x2 x3 x4 : Oper} {l : List Oper} {a : Act} {w : World} (hw : Region.wanted o (yielded ops a.tmps) = false)
    (h : ∀ K : Act → World → Prop, (∀ a w, wpRel P R ops Q ps (x1 :: x2 :: x3 :: x4 :: l) a w → K a w) → K (a.put o.dst undef) w) : wpRel P R ops Q ((4, c) :: ps) (x1 :: x2 :: x3 :: x4 :: o :: l) a w :=
  show relOp P R ops Q c o a w (wpRel P R ops Q ps (x1 :: x2 :: x3 :: x4 :: l)) from relOp_skip hw (h _ (fun _ _ h => h))
theorem rk5 {c : Bool} {ps : List (Nat × Bool)} {o x1 x2 x3 x4 x5 : Oper} {l : List Oper} {a : Act} {w : World} (hw : Region.wanted o (yielded ops a.tmps) = false)
    (h : ∀ K : Act → World → Prop, (∀ a w, wpRel P R ops Q ps (x1 :: x2 :: x3 :: x4 :: x5 :: l) a w → K a w) → K (a.put o.dst undef) w) : wpRel P R ops Q ((5, c) :: ps) (x1 :: x2 :: x3 :: x4 :: x5 :: o :: l) a w :=
  show relOp P R ops Q c o a w (wpRel P R ops Q ps (x1 :: x2 :: x3 :: x4 :: x5 :: l)) from relOp_skip hw (h _ (fun _ _ h => h))
end
end Go.Proofs.Yteolbbgnkbcfmaa

/- A region that draws its order, walked once in one order that is named: its calls come in one order, and what else it does only reads.
   Conditions: the plan is one of the region's own orders, and each call stands alone when it comes up (a Bool that the kernel runs). A region that draws its order, walked once in one order that is named: the plan's check by numbers (bits), for regions of a hundred operations and more. -/
import Derived.OrdersHeld
import Derived.Deep.QuietTactic
import Derived.Below
namespace Go.Proofs.YtmmhpibkjdlkgaaGreat
open Go Go.RowKit

section
variable {P : Program} {ops : Array Oper} {Q : Exit → Act → World → Prop}

/-- It leaves one value, in every world that is later than this one. -/
def calmAt (P : Program) (o : Oper) (a : Act) (w : World) (K : Act → World → Prop) : Prop :=
  ∃ v, (∀ x, Below w.heap.size w x → (execOp a.eval o).run P x = .ok (.value v) x) ∧ K (a.put o.dst v) w
/-- One operation of the plan: a call, or what only reads. -/
def seqOp (P : Program) (ops : Array Oper) (Q : Exit → Act → World → Prop) (c : Bool) (o : Oper) (a : Act) (w : World) (K : Act → World → Prop) : Prop :=
  if Region.wanted o (yielded ops a.tmps) then
    (match c with
      | true => o.wp P a w (fun a' w' => Below w.heap.size w w' ∧ K a' w') Q
      | false => calmAt P o a w K)
  else K (a.put o.dst undef) w
/-- The walk of a plan: places in what is left, and which are calls. -/
def wpSeq (P : Program) (ops : Array Oper) (Q : Exit → Act → World → Prop) : List (Nat × Bool) → List Oper → Act → World → Prop
  | [], _, a, w => Q .normal a w
  | (p, c) :: ps, l, a, w => match l[p]? with
    | none => False
    | some o => seqOp P ops Q c o a w (wpSeq P ops Q ps (l.eraseIdx p))
/-- The plan is one of the region's orders. -/
def seqB (ops : Array Oper) : List (Nat × Bool) → List Nat → Array Bool → Bool
  | [], _, listed => (Region.ready .any ops listed).isEmpty
  | (p, c) :: ps, rem, listed => match rem[p]? with
    | none => false
    | some k => (if c then Region.ready .any ops listed == [k] else (Region.ready .any ops listed).contains k && Region.free .any ops listed k) && seqB ops ps (rem.eraseIdx p) (listed.setIfInBounds k true)

theorem heldWeaken {S S' : World → Prop} {md : Region.Mode} (hS : ∀ w, S' w → S w) : ∀ (fuel : Nat) (listed : Array Bool) (a : Act) (w : World), wpAnyH P md ops Q S' fuel listed a w → wpAnyH P md ops Q S fuel listed a w
  | 0, _, _, _, h => h
  | fuel + 1, _, _, _, h => ⟨h.1, fun i hi => wpOp_mono (fun a' w' h' => ⟨hS w' h'.1, heldWeaken hS fuel _ a' w' h'.2⟩) (h.2 i hi)⟩

theorem eraseIdx_map {α β : Type} (f : α → β) : ∀ (l : List α) (p : Nat), (l.eraseIdx p).map f = (l.map f).eraseIdx p
  | [], _ => rfl
  | _ :: _, 0 => rfl
  | x :: l, p + 1 => by simp [List.eraseIdx, eraseIdx_map f l p]

theorem held_of_seq (hs : Region.noSelect ops = true) (hQ : ∀ c a w (d : Option Tmp) (v : Value), Q (.panic c) (a.put d v) w → Q (.panic c) a w) :
    ∀ (plan : List (Nat × Bool)) (rem : List Nat) (l : List Oper) (listed : Array Bool) (a : Act) (w : World) (fuel : Nat), rem.map (fun k => ops[k]?) = l.map some → plan.length ≤ fuel →
      seqB ops plan rem listed = true → wpSeq P ops Q plan l a w → wpAnyH P .any ops Q (Below w.heap.size w) fuel listed a w
  | [], rem, l, listed, a, w, fuel, _, _, hB, h => by
    simp only [seqB, List.isEmpty_iff] at hB
    exact wpAnyH_done hB h fuel
  | (p, c) :: ps, rem, l, listed, a, w, 0, _, hf, _, _ => by simp at hf
  | (p, c) :: ps, rem, l, listed, a, w, fuel + 1, hl, hf, hB, h => by
    have hf' : ps.length ≤ fuel := by simpa using hf
    simp only [seqB] at hB
    simp only [wpSeq] at h
    cases hk : rem[p]? with
    | none => rw [hk] at hB; cases hB
    | some k =>
      rw [hk] at hB
      have hlp : (rem.map (fun k => ops[k]?))[p]? = (l.map some)[p]? := by rw [hl]
      rw [List.getElem?_map, List.getElem?_map, hk] at hlp
      cases ho : l[p]? with
      | none => rw [ho] at h; exact h.elim
      | some o =>
        rw [ho] at h hlp
        have hko : ops[k]? = some o := by simpa using hlp
        have hl' : (rem.eraseIdx p).map (fun k => ops[k]?) = (l.eraseIdx p).map some := by rw [eraseIdx_map, eraseIdx_map, hl]
        simp only [Bool.and_eq_true] at hB
        obtain ⟨hB1, hB2⟩ := hB
        simp only [seqOp] at h
        cases c with
        | true =>
          have hr : Region.ready .any ops listed = [k] := by simpa using hB1
          refine wpAnyH_all hr (by simp) (fun i hi => ?_)
          have hik : i = k := by simpa using hi
          subst hik
          unfold wpOp
          simp only [hko]
          split
          · rename_i hw
            simp only [hw, if_true] at h
            refine .inl (Oper.wp_mono (fun a' w' h' => ⟨h'.1, ?_⟩) h)
            exact heldWeaken (fun x hx => h'.1.trans (hx.mono h'.1.size)) _ _ _ _ (held_of_seq hs hQ ps _ _ _ _ _ fuel hl' hf' hB2 h'.2)
          · rename_i hw
            simp only [hw] at h
            exact ⟨Below.refl _ _, held_of_seq hs hQ ps _ _ _ _ _ fuel hl' hf' hB2 h⟩
        | false =>
          simp only [Bool.false_eq_true, if_false, Bool.and_eq_true] at hB1
          by_cases hw : Region.wanted o (yielded ops a.tmps) = true
          · simp only [hw, if_true, calmAt] at h
            obtain ⟨v, hv, hn⟩ := h
            exact wpAnyH_take hko hs hB1.2 hB1.1 (fun c a w => hQ c a w _ _) (.inl ⟨hw, hv⟩) (Below.refl _ _) (held_of_seq hs hQ ps _ _ _ _ _ fuel hl' hf' hB2 hn)
          · simp only [hw] at h
            exact wpAnyH_take hko hs hB1.2 hB1.1 (fun c a w => hQ c a w _ _) (.inr ⟨by simpa using hw, rfl⟩) (Below.refl _ _) (held_of_seq hs hQ ps _ _ _ _ _ fuel hl' hf' hB2 h)

/-- **One walk, in the order of the plan, serves every order.** -/
theorem wp_region_seq {id : Nat} {a : Act} {w : World} {l : List Oper} (plan : List (Nat × Bool)) (hm : P.follows .mixedOrders = true) (hs : Region.noSelect l.toArray = true)
    (hB : (decide (plan.length ≤ l.length) && seqB l.toArray plan (List.range l.length) (Array.replicate l.length false)) = true) (hQ : ∀ c a w (d : Option Tmp) (v : Value), Q (.panic c) (a.put d v) w → Q (.panic c) a w)
    (h : wpSeq P l.toArray Q plan l a w.drew) : (Code.region id l.toArray true).wp P Q a w := by
  rw [Bool.and_eq_true, decide_eq_true_iff] at hB
  refine wp_region_held hm (S := Below w.heap.size w.drew) ?_
  have hl : (List.range l.length).map (fun k => l.toArray[k]?) = l.map some := by
    refine List.ext_getElem (by simp) (fun i h1 h2 => ?_)
    simp only [List.length_map, List.length_range] at h1
    simp [h1]
  have := held_of_seq (P := P) hs hQ plan (List.range l.length) l (Array.replicate l.length false) a w.drew l.toArray.size hl (by simpa using hB.1) hB.2 h
  simpa using this

/-- What is not wanted is passed over. -/
theorem seqOp_skip {c : Bool} {o : Oper} {a : Act} {w : World} {K : Act → World → Prop} (hw : Region.wanted o (yielded ops a.tmps) = false) (h : K (a.put o.dst undef) w) : seqOp P ops Q c o a w K := by
  unfold seqOp; rw [hw]; exact h
/-- One operation at a time, what follows behind a variable: by its place in what is left ('sp': what only reads; 'sc': a call). -/
theorem seq_nil {l : List Oper} {a : Act} {w : World} (h : Q .normal a w) : wpSeq P ops Q [] l a w := h
theorem sp0 {ps : List (Nat × Bool)} {o : Oper} {l : List Oper} {a : Act} {w : World}
    (h : ∀ K : Act → World → Prop, (∀ a w, wpSeq P ops Q ps (l) a w → K a w) → if Region.wanted o (yielded ops a.tmps) then (∃ v, (∀ x, Below w.heap.size w x → (execOp a.eval o).run P x = .ok (.value v) x) ∧ K (a.put o.dst v) w) else K (a.put o.dst undef) w) : wpSeq P ops Q ((0, false) :: ps) (o :: l) a w := h _ (fun _ _ h => h)
theorem sc0 {ps : List (Nat × Bool)} {o : Oper} {l : List Oper} {a : Act} {w : World}
    (h : ∀ K : Act → World → Prop, (∀ a w, wpSeq P ops Q ps (l) a w → K a w) → if Region.wanted o (yielded ops a.tmps) then o.wp P a w (fun a' w' => Below w.heap.size w w' ∧ K a' w') Q else K (a.put o.dst undef) w) : wpSeq P ops Q ((0, true) :: ps) (o :: l) a w := h _ (fun _ _ h => h)
theorem sp1 {ps : List (Nat × Bool)} {o x1 : Oper} {l : List Oper} {a : Act} {w : World}
    (h : ∀ K : Act → World → Prop, (∀ a w, wpSeq P ops Q ps (x1 :: l) a w → K a w) → if Region.wanted o (yielded ops a.tmps) then (∃ v, (∀ x, Below w.heap.size w x → (execOp a.eval o).run P x = .ok (.value v) x) ∧ K (a.put o.dst v) w) else K (a.put o.dst undef) w) : wpSeq P ops Q ((1, false) :: ps) (x1 :: o :: l) a w := h _ (fun _ _ h => h)
theorem sc1 {ps : List (Nat × Bool)} {o x1 : Oper} {l : List Oper} {a : Act} {w : World}
    (h : ∀ K : Act → World → Prop, (∀ a w, wpSeq P ops Q ps (x1 :: l) a w → K a w) → if Region.wanted o (yielded ops a.tmps) then o.wp P a w (fun a' w' => Below w.heap.size w w' ∧ K a' w') Q else K (a.put o.dst undef) w) : wpSeq P ops Q ((1, true) :: ps) (x1 :: o :: l) a w := h _ (fun _ _ h => h)
theorem sp2 {ps : List (Nat × Bool)} {o x1 x2 : Oper} {l : List Oper} {a : Act} {w : World}
    (h : ∀ K : Act → World → Prop, (∀ a w, wpSeq P ops Q ps (x1 :: x2 :: l) a w → K a w) → if Region.wanted o (yielded ops a.tmps) then (∃ v, (∀ x, Below w.heap.size w x → (execOp a.eval o).run P x = .ok (.value v) x) ∧ K (a.put o.dst v) w) else K (a.put o.dst undef) w) : wpSeq P ops Q ((2, false) :: ps) (x1 :: x2 :: o :: l) a w := h _ (fun _ _ h => h)
theorem sc2 {ps : List (Nat × Bool)} {o x1 x2 : Oper} {l : List Oper} {a : Act} {w : World}
    (h : ∀ K : Act → World → Prop, (∀ a w, wpSeq P ops Q ps (x1 :: x2 :: l) a w → K a w) → if Region.wanted o (yielded ops a.tmps) then o.wp P a w (fun a' w' => Below w.heap.size w w' ∧ K a' w') Q else K (a.put o.dst undef) w) : wpSeq P ops Q ((2, true) :: ps) (x1 :: x2 :: o :: l) a w := h _ (fun _ _ h => h)
theorem sp3 {ps : List (Nat × Bool)} {o x1 x2 x3 : Oper} {l : List Oper} {a : Act} {w : World}
    (h : ∀ K : Act → World → Prop, (∀ a w, wpSeq P ops Q ps (x1 :: x2 :: x3 :: l) a w → K a w) → if Region.wanted o (yielded ops a.tmps) then (∃ v, (∀ x, Below w.heap.size w x → (execOp a.eval o).run P x = .ok (.value v) x) ∧ K (a.put o.dst v) w) else K (a.put o.dst undef) w) : wpSeq P ops Q ((3, false) :: ps) (x1 :: x2 :: x3 :: o :: l) a w := h _ (fun _ _ h => h)
theorem sc3 {ps : List (Nat × Bool)} {o x1 x2 x3 : Oper} {l : List Oper} {a : Act} {w : World}
    (h : ∀ K : Act → World → Prop, (∀ a w, wpSeq P ops Q ps (x1 :: x2 :: x3 :: l) a w → K a w) → if Region.wanted o (yielded ops a.tmps) then o.wp P a w (fun a' w' => Below w.heap.size w w' ∧ K a' w') Q else K (a.put o.dst undef) w) : wpSeq P ops Q ((3, true) :: ps) (x1 :: x2 :: x3 :: o :: l) a w := h _ (fun _ _ h => h)
theorem sp4 {ps : List (Nat × Bool)} {o x1 x2 x3 x4 : Oper} {l : List Oper} {a : Act} {w : World}
    (h : ∀ K : Act → World → Prop, (∀ a w, wpSeq P ops Q ps (x1 :: x2 :: x3 :: x4 :: l) a w → K a w) → if Region.wanted o (yielded ops a.tmps) then (∃ v, (∀ x, Below w.heap.size w x → (execOp a.eval o).run P x = .ok (.value v) x) ∧ K (a.put o.dst v) w) else K (a.put o.dst undef) w) : wpSeq P ops Q ((4, false) :: ps) (x1 :: x2 :: x3 :: x4 :: o :: l) a w := h _ (fun _ _ h => h)
theorem sc4 {ps : List (Nat × Bool)} {o x1 x2 x3 x4 : Oper} {l : List Oper} {a : Act} {w : World}
    (h : ∀ K : Act → World → Prop, (∀ a w, wpSeq P ops Q ps (x1 :: x2 :: x3 :: x4 :: l) a w → K a w) → if Region.wanted o (yielded ops a.tmps) then o.wp P a w (fun a' w' => Below w.heap.size w w' ∧ K a' w') Q else K (a.put o.dst undef) w) : wpSeq P ops Q ((4, true) :: ps) (x1 :: x2 :: x3 :: x4 :: o :: l) a w := h _ (fun _ _ h => h)
/-- What is not wanted. -/
theorem sk0 {c : Bool} {ps : List (Nat × Bool)} {o : Oper} {l : List Oper} {a : Act} {w : World} (hw : Region.wanted o (yielded ops a.tmps) = false)
    (h : ∀ K : Act → World → Prop, (∀ a w, wpSeq P ops Q ps (l) a w → K a w) → K (a.put o.dst undef) w) : wpSeq P ops Q ((0, c) :: ps) (o :: l) a w :=
  show seqOp P ops Q c o a w (wpSeq P ops Q ps (l)) from seqOp_skip hw (h _ (fun _ _ h => h))
theorem sk1 {c : Bool} {ps : List (Nat × Bool)} {o x1 : Oper} {l : List Oper} {a : Act} {w : World} (hw : Region.wanted o (yielded ops a.tmps) = false)
    (h : ∀ K : Act → World → Prop, (∀ a w, wpSeq P ops Q ps (x1 :: l) a w → K a w) → K (a.put o.dst undef) w) : wpSeq P ops Q ((1, c) :: ps) (x1 :: o :: l) a w :=
  show seqOp P ops Q c o a w (wpSeq P ops Q ps (x1 :: l)) from seqOp_skip hw (h _ (fun _ _ h => h))
theorem sk2 {c : Bool} {ps : List (Nat × Bool)} {o x1 x2 : Oper} {l : List Oper} {a : Act} {w : World} (hw : Region.wanted o (yielded ops a.tmps) = false)
    (h : ∀ K : Act → World → Prop, (∀ a w, wpSeq P ops Q ps (x1 :: x2 :: l) a w → K a w) → K (a.put o.dst undef) w) : wpSeq P ops Q ((2, c) :: ps) (x1 :: x2 :: o :: l) a w :=
  show seqOp P ops Q c o a w (wpSeq P ops Q ps (x1 :: x2 :: l)) from seqOp_skip hw (h _ (fun _ _ h => h))
theorem sk3 {c : Bool} {ps : List (Nat × Bool)} {o x1 x2 x3 : Oper} {l : List Oper} {a : Act} {w : World} (hw : Region.wanted o (yielded ops a.tmps) = false)
    (h : ∀ K : Act → World → Prop, (∀ a w, wpSeq P ops Q ps (x1 :: x2 :: x3 :: l) a w → K a w) → K (a.put o.dst undef) w) : wpSeq P ops Q ((3, c) :: ps) (x1 :: x2 :: x3 :: o :: l) a w :=
  show seqOp P ops Q c o a w (wpSeq P ops Q ps (x1 :: x2 :: x3 :: l)) from seqOp_skip hw (h _ (fun _ _ h => h))
theorem sk4 {c : Bool} {ps : List (Nat × Bool)} {o x1 x2 x3 x4 : Oper} {l : List Oper} {a : Act} {w : World} (hw : Region.wanted o (yielded ops a.tmps) = false)
    (h : ∀ K : Act → World → Prop, (∀ a w, wpSeq P ops Q ps (x1 :: x2 :: x3 :: x4 :: l) a w → K a w) → K (a.put o.dst undef) w) : wpSeq P ops Q ((4, c) :: ps) (x1 :: x2 :: x3 :: x4 :: o :: l) a w :=
  show seqOp P ops Q c o a w (wpSeq P ops Q ps (x1 :: x2 :: x3 :: x4 :: l)) from seqOp_skip hw (h _ (fun _ _ h => h))
end
/-- A cell stays. -/
theorem keepc {w x : World} {p : Addr} {v : Value} (hx : Below w.heap.size w x) (h : w.cell? p = some v) : x.cell? p = some v := by
  have hlt : p.block < w.heap.size := by
    rcases Nat.lt_or_ge p.block w.heap.size with h' | h'
    · exact h'
    · unfold World.cell? at h
      rw [Array.getElem?_eq_none h'] at h
      cases h
  exact (hx.cell hlt).trans h
end Go.Proofs.YtmmhpibkjdlkgaaGreat
namespace Go.Proofs.YtmmhpibkjdlkgaaGreat
open Go Go.RowKit

/-- A row of numbers as one number. -/
def maskOf (l : List Nat) : Nat := l.foldr (fun d m => m ||| 2 ^ d) 0
theorem maskOf_bit (l : List Nat) (i : Nat) : (maskOf l).testBit i = decide (i ∈ l) := by
  induction l with
  | nil => simp [maskOf]
  | cons d r ih =>
    rw [show maskOf (d :: r) = maskOf r ||| 2 ^ d from rfl, Nat.testBit_or, ih, Nat.testBit_two_pow, Bool.eq_iff_iff]
    simp only [Bool.or_eq_true, decide_eq_true_eq, List.mem_cons]
    constructor
    · rintro (h | h)
      · exact .inr h
      · exact .inl h.symm
    · rintro (h | h)
      · exact .inr h.symm
      · exact .inl h
def aftersOf (o : Oper) : List Nat := (o.after.toList.filter (Region.binds .any)).map (·.on)
/-- What the check asks of an operation: what it writes, what it looks at, what it comes after. -/
def rowOf (ops : Array Oper) (o : Oper) : Nat × Nat × Nat := (maskOf o.dst.toList, maskOf (o.looksAt ops), maskOf (aftersOf o))
def lineB : List (Nat × Bool) → List (Nat × Nat × Nat × Nat) → Nat → Bool
  | [], rem, _ => rem.isEmpty
  | (p, c) :: ps, rem, S => match rem[p]? with
    | none => false
    | some (k, d, L, A) => Nat.beq (A ||| S) S && (rem.eraseIdx p).all (fun r => if c then !Nat.beq (r.2.2.2 ||| S) S else r.2.2.2.testBit k || (Nat.beq (d &&& r.2.2.1) 0 && Nat.beq (d &&& r.2.1) 0 && Nat.beq (r.2.1 &&& L) 0)) && lineB ps (rem.eraseIdx p) (S ||| 2 ^ k)
theorem or_eq_iff (A S : Nat) : (A ||| S = S) ↔ ∀ i, A.testBit i = true → S.testBit i = true := by
  constructor
  · intro h i hi
    rw [← h, Nat.testBit_or, hi, Bool.true_or]
  · intro h
    refine Nat.eq_of_testBit_eq fun i => ?_
    rw [Nat.testBit_or]
    cases hA : A.testBit i with
    | false => rw [Bool.false_or]
    | true => rw [h i hA]; rfl
theorem and_zero {a b : Nat} (h : a &&& b = 0) (i : Nat) (ha : a.testBit i = true) : b.testBit i = false := by
  have := congrArg (fun x => x.testBit i) h
  simp only [Nat.testBit_and, ha, Bool.true_and, Nat.zero_testBit] at this
  exact this
section
variable {ops : Array Oper}
structure LineInv (ops : Array Oper) (rem : List (Nat × Nat × Nat × Nat)) (listed : Array Bool) (S : Nat) : Prop where
  size : listed.size = ops.size
  bits : ∀ j, j < ops.size → listed.getD j true = S.testBit j
  out : ∀ j, ops.size ≤ j → S.testBit j = false
  left : ∀ j, j < ops.size → S.testBit j = false → ∃ r ∈ rem, r.1 = j
  rows : ∀ r ∈ rem, ∃ o, ops[r.1]? = some o ∧ r.2 = rowOf ops o ∧ S.testBit r.1 = false
  nodup : (rem.map (·.1)).Nodup
theorem after_bits {listed : Array Bool} {S : Nat} (hs : listed.size = ops.size) (hb : ∀ j, j < ops.size → listed.getD j true = S.testBit j) (ho : ∀ j, ops.size ≤ j → S.testBit j = false) (j : Nat) : listed.getD j false = S.testBit j := by
  by_cases h : j < ops.size
  · rw [← hb j h]
    have h' : j < listed.size := by omega
    simp [Array.getD, h']
  · rw [ho j (by omega)]
    have h' : ¬ j < listed.size := by omega
    simp [Array.getD, h']
theorem after_iff {listed : Array Bool} {S : Nat} (hs : listed.size = ops.size) (hb : ∀ j, j < ops.size → listed.getD j true = S.testBit j) (ho : ∀ j, ops.size ≤ j → S.testBit j = false) (o : Oper) :
    (o.after.all fun e => !Region.binds .any e || listed.getD e.on false) = true ↔ maskOf (aftersOf o) ||| S = S := by
  rw [or_eq_iff, Array.all_eq_true_iff_forall_mem]
  constructor
  · intro h i hi
    rw [maskOf_bit, decide_eq_true_eq] at hi
    obtain ⟨e, he, rfl⟩ := List.mem_map.1 hi
    obtain ⟨h1, h2⟩ := List.mem_filter.1 he
    have := h e (by simpa using h1)
    rw [h2, Bool.not_true, Bool.false_or, after_bits hs hb ho] at this
    exact this
  · intro h e he
    cases hbi : Region.binds .any e with
    | false => rfl
    | true =>
      rw [Bool.not_true, Bool.false_or, after_bits hs hb ho]
      refine h _ ?_
      rw [maskOf_bit, decide_eq_true_eq]
      exact List.mem_map.2 ⟨e, List.mem_filter.2 ⟨by simpa using he, hbi⟩, rfl⟩
theorem ready_iff {rem : List (Nat × Nat × Nat × Nat)} {listed : Array Bool} {S : Nat} (hI : LineInv ops rem listed S) (i : Nat) :
    i ∈ Region.ready .any ops listed ↔ ∃ r ∈ rem, r.1 = i ∧ r.2.2.2 ||| S = S := by
  unfold Region.ready
  rw [List.mem_filter, List.mem_range, Bool.and_eq_true, Bool.not_eq_true']
  constructor
  · rintro ⟨h1, h2, h3⟩
    rw [hI.bits i h1] at h2
    obtain ⟨r, hr, rfl⟩ := hI.left i h1 h2
    obtain ⟨o, ho, hrow, _⟩ := hI.rows r hr
    rw [ho] at h3
    refine ⟨r, hr, rfl, ?_⟩
    rw [hrow]
    exact (after_iff hI.size hI.bits hI.out o).1 h3
  · rintro ⟨r, hr, rfl, h⟩
    obtain ⟨o, ho, hrow, hS⟩ := hI.rows r hr
    have hlt : r.1 < ops.size := (Array.getElem?_eq_some_iff.1 ho).1
    refine ⟨hlt, by rw [hI.bits _ hlt]; exact hS, ?_⟩
    rw [ho]
    rw [hrow] at h
    exact (after_iff hI.size hI.bits hI.out o).2 h
theorem only_one {l : List Nat} {k : Nat} (hn : l.Nodup) (hk : k ∈ l) (h : ∀ x ∈ l, x = k) : l = [k] := by
  match l, hn, hk, h with
  | [x], _, _, h => rw [h x (by simp)]
  | x :: y :: r, hn, _, h =>
    have h1 := h x (by simp)
    have h2 := h y (by simp)
    subst h1; subst h2
    simp at hn
theorem LineInv.next {rem : List (Nat × Nat × Nat × Nat)} {listed : Array Bool} {S p k d L A : Nat} (hI : LineInv ops rem listed S) (hp : rem[p]? = some (k, d, L, A)) :
    LineInv ops (rem.eraseIdx p) (listed.setIfInBounds k true) (S ||| 2 ^ k) := by
  have hm : (k, d, L, A) ∈ rem := List.mem_of_getElem? hp
  obtain ⟨o, ho, hrow, hS⟩ := hI.rows _ hm
  have hlt : k < ops.size := (Array.getElem?_eq_some_iff.1 ho).1
  obtain ⟨hpl, hpe⟩ := List.getElem?_eq_some_iff.1 hp
  have hnd := hI.nodup
  have hne : ∀ r ∈ rem.eraseIdx p, r.1 ≠ k := by
    intro r hr e
    rw [List.mem_eraseIdx_iff_getElem] at hr
    obtain ⟨i, hi, hip, rfl⟩ := hr
    have h1 : (rem.map (·.1))[i]'(by simpa using hi) = (rem.map (·.1))[p]'(by simpa using hpl) := by
      rw [List.getElem_map, List.getElem_map, hpe]; exact e
    have hpw := List.pairwise_iff_getElem.1 (show List.Pairwise (fun a b => a ≠ b) (rem.map (·.1)) from hnd)
    rcases Nat.lt_trichotomy i p with hlt | heq | hgt
    · exact hpw i p _ _ hlt h1
    · exact hip heq
    · exact hpw p i _ _ hgt h1.symm
  refine ⟨by rw [Array.size_setIfInBounds]; exact hI.size, fun j hj => ?_, fun j hj => ?_, fun j hj h => ?_, fun r hr => ?_, ?_⟩
  · rw [Nat.testBit_or, Nat.testBit_two_pow]
    by_cases e : k = j
    · subst e
      rw [decide_eq_true rfl, Bool.or_true]
      have : k < listed.size := by rw [hI.size]; exact hlt
      simp [Array.getD, this]
    · rw [decide_eq_false e, Bool.or_false, ← hI.bits j hj]
      have h1 : j < listed.size := by rw [hI.size]; exact hj
      simp [Array.getD, h1, e]
  · rw [Nat.testBit_or, Nat.testBit_two_pow, hI.out j hj, decide_eq_false (by omega)]; rfl
  · rw [Nat.testBit_or, Nat.testBit_two_pow, Bool.or_eq_false_iff, decide_eq_false_iff_not] at h
    obtain ⟨r, hr, rfl⟩ := hI.left j hj h.1
    refine ⟨r, ?_, rfl⟩
    rw [List.mem_eraseIdx_iff_getElem]
    obtain ⟨i, hi, rfl⟩ := List.mem_iff_getElem.1 hr
    refine ⟨i, hi, fun e => ?_, rfl⟩
    subst e
    rw [hpe] at h
    exact h.2 rfl
  · obtain ⟨o', ho', hrow', hS'⟩ := hI.rows r (List.mem_of_mem_eraseIdx hr)
    refine ⟨o', ho', hrow', ?_⟩
    rw [Nat.testBit_or, Nat.testBit_two_pow, hS', decide_eq_false (fun e => hne r hr e.symm)]; rfl
  · exact (List.Nodup.sublist ((List.eraseIdx_sublist rem p).map _) hnd)
theorem seqB_of_line : ∀ (plan : List (Nat × Bool)) (rem : List (Nat × Nat × Nat × Nat)) (listed : Array Bool) (S : Nat), LineInv ops rem listed S → lineB plan rem S = true → seqB ops plan (rem.map (·.1)) listed = true
  | [], rem, listed, S, hI, h => by
    simp only [lineB, List.isEmpty_iff] at h
    subst h
    simp only [seqB, List.isEmpty_iff]
    refine List.eq_nil_iff_forall_not_mem.2 fun i hi => ?_
    obtain ⟨r, hr, _⟩ := (ready_iff hI i).1 hi
    cases hr
  | (p, c) :: ps, rem, listed, S, hI, h => by
    simp only [lineB] at h
    cases hp : rem[p]? with
    | none => rw [hp] at h; cases h
    | some q =>
      obtain ⟨k, d, L, A⟩ := q
      rw [hp] at h
      simp only [Bool.and_eq_true, List.all_eq_true] at h
      obtain ⟨⟨h1, h2⟩, h3⟩ := h
      have hA : A ||| S = S := Nat.eq_of_beq_eq_true h1
      have hm : (k, d, L, A) ∈ rem := List.mem_of_getElem? hp
      obtain ⟨o, ho, hrow, hS⟩ := hI.rows _ hm
      have hk : k ∈ Region.ready .any ops listed := (ready_iff hI k).2 ⟨_, hm, rfl, hA⟩
      have hel : ∀ r ∈ rem, r.1 ≠ k → r ∈ rem.eraseIdx p := by
        intro r hr hne
        rw [List.mem_eraseIdx_iff_getElem]
        obtain ⟨i, hi, rfl⟩ := List.mem_iff_getElem.1 hr
        refine ⟨i, hi, fun e => ?_, rfl⟩
        subst e
        rw [List.getElem?_eq_getElem hi] at hp
        injection hp with hp
        rw [hp] at hne
        exact hne rfl
      simp only [seqB, List.getElem?_map, hp, Option.map_some, Bool.and_eq_true]
      refine ⟨?_, ?_⟩
      · cases c with
        | true =>
          simp only [if_true, beq_iff_eq]
          refine only_one (List.Nodup.sublist List.filter_sublist List.nodup_range) hk fun i hi => ?_
          obtain ⟨r, hr, rfl, hr2⟩ := (ready_iff hI i).1 hi
          refine Classical.byContradiction fun hne => ?_
          have := h2 r (hel r hr hne)
          simp only [if_true, Bool.not_eq_true'] at this
          rw [hr2, Nat.beq_refl] at this
          cases this
        | false =>
          simp only [Bool.false_eq_true, if_false, Bool.and_eq_true, List.contains_iff_mem]
          refine ⟨hk, ?_⟩
          unfold Region.free
          rw [ho]
          simp only [List.all_eq_true, List.mem_range, Bool.or_eq_true, beq_iff_eq]
          intro j hj
          by_cases hjk : j = k
          · exact .inl (.inl hjk)
          · cases hjS : S.testBit j with
            | true => exact .inl (.inr (by rw [hI.bits j hj]; exact hjS))
            | false =>
              right
              obtain ⟨r, hr, rfl⟩ := hI.left j hj hjS
              obtain ⟨oj, hoj, hrj, _⟩ := hI.rows r hr
              have := h2 r (hel r hr hjk)
              rw [hoj]
              simp only [Bool.false_eq_true, if_false, Bool.or_eq_true, Bool.and_eq_true] at this ⊢
              rw [hrj] at this
              injection hrow with hd hLA
              injection hLA with hL hA2
              rcases this with h4 | ⟨⟨h4, h5⟩, h6⟩
              · left
                rw [show (rowOf ops oj).2.2 = maskOf (aftersOf oj) from rfl, maskOf_bit, decide_eq_true_eq] at h4
                obtain ⟨e, he, hek⟩ := List.mem_map.1 h4
                obtain ⟨he1, he2⟩ := List.mem_filter.1 he
                rw [Array.any_eq_true']
                exact ⟨e, by simpa using he1, by rw [he2, hek]; simp⟩
              · right
                replace h4 := Nat.eq_of_beq_eq_true h4
                replace h5 := Nat.eq_of_beq_eq_true h5
                replace h6 := Nat.eq_of_beq_eq_true h6
                rw [hd] at h4 h5
                rw [hL] at h6
                have ndst : ∀ (x : Oper) (y : Nat), x.dst = some y → (maskOf x.dst.toList).testBit y = true := fun x y hx => by rw [maskOf_bit, hx]; simp
                unfold Oper.apart
                rw [Bool.and_eq_true]
                refine ⟨?_, ?_⟩
                · cases hx : o.dst with
                  | none => rfl
                  | some y =>
                    have a1 := and_zero h4 y (ndst o y hx)
                    have a2 := and_zero h5 y (ndst o y hx)
                    rw [show (rowOf ops oj).2.1 = maskOf (oj.looksAt ops) from rfl, maskOf_bit, decide_eq_false_iff_not] at a1
                    rw [show (rowOf ops oj).1 = maskOf oj.dst.toList from rfl, maskOf_bit, decide_eq_false_iff_not] at a2
                    simp only [Bool.and_eq_true, Bool.not_eq_true', bne_iff_ne]
                    refine ⟨by simpa using a1, fun e => a2 (by rw [e]; simp)⟩
                · cases hx : oj.dst with
                  | none => rfl
                  | some y =>
                    have a1 := and_zero h6 y (ndst oj y hx)
                    rw [maskOf_bit, decide_eq_false_iff_not] at a1
                    simpa using a1
      · have := seqB_of_line ps (rem.eraseIdx p) (listed.setIfInBounds k true) (S ||| 2 ^ k) (hI.next hp) h3
        rw [← eraseIdx_map]
        exact this
end
/-- The rows of a region's operations, each with its place. -/
def tabOf (ops : Array Oper) : Nat → List Oper → List (Nat × Nat × Nat × Nat)
  | _, [] => []
  | k, o :: r => (k, rowOf ops o) :: tabOf ops (k + 1) r
theorem tabOf_map (ops : Array Oper) : ∀ (k : Nat) (l : List Oper), (tabOf ops k l).map (·.1) = List.range' k l.length
  | k, [] => rfl
  | k, o :: r => by rw [tabOf, List.map_cons, tabOf_map ops (k + 1) r, List.length_cons, List.range'_succ]
theorem tabOf_mem (ops : Array Oper) : ∀ (k : Nat) (l : List Oper) (r : Nat × Nat × Nat × Nat), r ∈ tabOf ops k l → ∃ i o, l[i]? = some o ∧ r = (k + i, rowOf ops o)
  | k, [], r, h => by simp [tabOf] at h
  | k, o :: s, r, h => by
    rw [tabOf] at h
    rcases List.mem_cons.1 h with rfl | h
    · exact ⟨0, o, rfl, rfl⟩
    · obtain ⟨i, o', h1, h2⟩ := tabOf_mem ops (k + 1) s r h
      exact ⟨i + 1, o', h1, by rw [h2]; congr 1; omega⟩
theorem line_start (l : List Oper) : LineInv l.toArray (tabOf l.toArray 0 l) (Array.replicate l.length false) 0 := by
  have hmap := tabOf_map l.toArray 0 l
  refine ⟨by simp, fun j hj => ?_, fun j _ => Nat.zero_testBit _, fun j hj _ => ?_, fun r hr => ?_, ?_⟩
  · have h' : j < l.length := by simpa using hj
    simp [Array.getD, h']
  · have h' : j < l.length := by simpa using hj
    have : j ∈ (tabOf l.toArray 0 l).map (·.1) := by rw [hmap, List.mem_range']; exact ⟨j, h', by omega⟩
    obtain ⟨r, hr, e⟩ := List.mem_map.1 this
    exact ⟨r, hr, e⟩
  · obtain ⟨i, o, h1, rfl⟩ := tabOf_mem _ _ _ _ hr
    exact ⟨o, by rw [Nat.zero_add]; simpa using h1, rfl, Nat.zero_testBit _⟩
  · rw [hmap]; exact List.nodup_range'
/-- **One walk, in the order of the plan, serves every order; the plan is checked by numbers.** -/
theorem wp_region_line {P : Program} {Q : Exit → Act → World → Prop} {id : Nat} {a : Act} {w : World} {l : List Oper} (plan : List (Nat × Bool)) (tab : List (Nat × Nat × Nat × Nat)) (hm : P.follows .mixedOrders = true) (hs : Region.noSelect l.toArray = true)
    (ht : tabOf l.toArray 0 l = tab) (hc : (decide (plan.length ≤ l.length) && lineB plan tab 0) = true) (hQ : ∀ c a w (d : Option Tmp) (v : Value), Q (.panic c) (a.put d v) w → Q (.panic c) a w)
    (h : wpSeq P l.toArray Q plan l a w.drew) : (Code.region id l.toArray true).wp P Q a w := by
  subst ht
  rw [Bool.and_eq_true] at hc
  refine wp_region_seq plan hm hs ?_ hQ h
  rw [Bool.and_eq_true]
  refine ⟨hc.1, ?_⟩
  have := seqB_of_line plan _ _ _ (line_start l) hc.2
  rw [tabOf_map] at this
  rw [List.range_eq_range']
  exact this
end Go.Proofs.YtmmhpibkjdlkgaaGreat

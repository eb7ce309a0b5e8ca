/- Types that a call builds: rows of kids of its own; a call as a step of a region that draws. -/
import Derived.Test.YtaaapdfdedknfaaTrC
import Derived.Test.YtaaapdfdedknfaaTrD
import Derived.Deep.AppendLies
import Derived.Deep.RegionLaw
namespace Go.Proofs.Ytaaapdfdedknfaa
open Go Go.RowKit
open Tp (T)

/-- A call of a Go function as one step of a region that draws. -/
theorem step_call {P : Program} {ops : Array Oper} {o : Oper} {a : Act} {w : World} {K : Act → World → Prop} {Q : Exit → Act → World → Prop} {E : Prop} (hg : o.guard = none) (f : FuncId) (args : Array Operand) (ts : Array TypeId)
    (hop : o.op = Op.call { callee := Callee.value (.func f), args := args, argTypes := ts }) (vs : Array Value) (hvs : args.map a.eval = vs) (he : ∀ args w, (callFunc f args).run P w = .ok (.enter f args) w)
    {R : Ending → World → Prop} (hc : Calls P f vs w R) (hR : ∀ e w', R e w' → ∃ v, e = .returned v) (hK : ∀ v w', R (.returned v) w' → K (a.put o.dst v) w') :
    if Region.wanted o (yielded ops a.tmps) = true then Oper.wp P o a w K Q else E := by
  have hw : Region.wanted o (yielded ops a.tmps) = true := by simp [Region.wanted, hg]
  rw [if_pos hw]
  unfold Oper.wp
  subst hvs
  have e : a.eval (Operand.func f) = .func (.func f) #[] #[] := rfl
  simp [execOp, hop, resolve, invoke, e, Deferred.ofValue, he, Oper.upon]
  refine hc.mono fun x w' hr => ?_
  obtain ⟨v, rfl⟩ := hR x w' hr
  exact hK v w' hr
theorem own_base' {w : World} {b b' : Nat} {e : TypeId} {sz : Nat} {v : Value} {n : Nat} {xs : List Value} (h : w.ownsRow b e sz v n xs) (hb : b' ≤ b) : w.ownsRow b' e sz v n xs := by
  obtain ⟨h1, h2 | ⟨g, cap, cur, h3, h4, h5⟩⟩ := h
  · exact ⟨h1, .inl h2⟩
  · exact ⟨h1, .inr ⟨g, cap, cur, h3, Nat.le_trans hb h4, h5⟩⟩
/-- A kid that a call has built. -/
structure Ke where
  t : T
  a : Option Addr
  cap : Nat
def keCells (e : Ke) : List Value := [.int .i64 e.t.kind, .int .i64 e.t.num, .slice e.a e.t.kids.length e.cap]
def rowCells (ks : List Ke) : List Value := ks.flatMap keCells
theorem rowCells_length : ∀ S : List Ke, (rowCells S).length = S.length * 3
  | [] => rfl
  | e :: r => by
    have := rowCells_length r
    simp only [rowCells, List.flatMap_cons, List.length_append, List.length_cons, keCells, List.length_nil] at this ⊢
    omega
theorem rowCells_snoc (S : List Ke) (e : Ke) : rowCells (S ++ [e]) = rowCells S ++ keCells e := by simp [rowCells]
theorem rowCells_at : ∀ (S : List Ke) (i : Nat) (h : i < S.length) (j : Nat), j < 3 → (rowCells S)[i * 3 + j]? = (keCells S[i])[j]?
  | [], i, h, _, _ => by simp at h
  | t :: r, 0, h, j, hj => by
    have e : rowCells (t :: r) = keCells t ++ rowCells r := by simp [rowCells]
    rw [e, Nat.zero_mul, Nat.zero_add, List.getElem?_append_left (by simp [keCells]; omega)]; rfl
  | t :: r, i + 1, h, j, hj => by
    have e : rowCells (t :: r) = keCells t ++ rowCells r := by simp [rowCells]
    rw [e, List.getElem?_append_right (by simp [keCells]; omega)]
    have ih := rowCells_at r i (by simpa using h) j hj
    rw [show (i + 1) * 3 + j - (keCells t).length = i * 3 + j from by simp [keCells]; omega, ih]; rfl
/-- The blocks from B on, but the row's own. -/
def Others (B : Nat) (w : World) (v : Value) : Nat → Prop := fun b => B ≤ b ∧ b < w.heap.size ∧ v.ownBlock ≠ some b
/-- A row of kids of the call's own. -/
structure RowK (B : Nat) (w : World) (v : Value) (ks : List Ke) : Prop where
  own : w.ownsRow B 26 3 v ks.length (rowCells ks)
  each : ∀ e ∈ ks, TyAt (Others B w v) w e.t e.a e.cap
theorem ty_same {G G' : Nat → Prop} {w w' : World} (hs : ∀ k, G k → w'.heap[k]? = w.heap[k]?) (hG : ∀ k, G k → G' k) {t : T} {a : Option Addr} {cap : Nat} (h : TyAt G w t a cap) : TyAt G' w' t a cap :=
  ⟨h.1, h.2.1, h.2.2.1, h.2.2.2.1, KidsAt.mono (fun b o hb => World.cell?_of_block (a := ⟨b, o, none⟩) (hs b hb)) hG _ _ h.2.2.2.2⟩
theorem RowK.nil (B : Nat) (w : World) : RowK B w (.slice none 0 0) [] := ⟨World.ownsRow_nil _ _ _ _, fun _ h => by cases h⟩
/-- What lies as it lay, and a row of the call's own. -/
theorem RowK.keep {B : Nat} {w w' : World} {v : Value} {ks : List Ke} (h : RowK B w v ks) (hs : ∀ k, B ≤ k → k < w.heap.size → w'.heap[k]? = w.heap[k]?) (hz : w.heap.size ≤ w'.heap.size) : RowK B w' v ks :=
  ⟨own_same h.own fun g hg => hs g (h.own.lt g hg).1 (h.own.lt g hg).2, fun e he => ty_same (fun k hk => hs k hk.1 hk.2.1) (fun _ hk => ⟨hk.1, Nat.lt_of_lt_of_le hk.2.1 hz, hk.2.2⟩) (h.each e he)⟩
theorem RowK.base {B B' : Nat} {w : World} {v : Value} {ks : List Ke} (h : RowK B w v ks) (hB : B' ≤ B) : RowK B' w v ks :=
  ⟨own_base' h.own hB, fun e he => ty_same (fun _ _ => rfl) (fun _ hk => ⟨Nat.le_trans hB hk.1, hk.2.1, hk.2.2⟩) (h.each e he)⟩
/-- A kid more: behind append. -/
theorem RowK.push {B n : Nat} {w w1 w2 : World} {o : Obj} {g2 cap2 : Nat} {v : Value} {ks : List Ke} {e : Ke} (h : RowK B w v ks) (hn : ks.length = n) (hb : ∀ k, B ≤ k → k < w.heap.size → w1.heap[k]? = w.heap[k]?) (hz : w.heap.size ≤ w1.heap.size) (hB : B ≤ w.heap.size)
    (he : TyAt (fun b => w.heap.size ≤ b ∧ b < w1.heap.size) w1 e.t e.a e.cap) (hown : w2.ownsRow B 26 3 (.slice (some ⟨g2, 0, none⟩) (n + 1) cap2) (n + 1) (rowCells ks ++ keCells e)) (hg : (w1.alloc o).grownBy w2 v.ownBlock) (hl : v.ownBlock = some g2 ∨ g2 = w1.heap.size + 1) :
    RowK B w2 (.slice (some ⟨g2, 0, none⟩) (n + 1) cap2) (ks ++ [e]) := by
  subst hn
  have hsz : w1.heap.size < w2.heap.size := by have := hg.size; rw [World.size_alloc] at this; omega
  have kp : ∀ k, k < w1.heap.size → v.ownBlock ≠ some k → w2.heap[k]? = w1.heap[k]? := fun k hk hn => (hg.block k (by rw [World.size_alloc]; omega) (fun e => hn e.symm)).trans (Below.heap_alloc _ _ _ hk)
  have vlt : ∀ g, v.ownBlock = some g → g < w.heap.size := fun g hg => (h.own.lt g hg).2
  refine ⟨by rw [rowCells_snoc, List.length_append]; exact hown, fun e' he' => ?_⟩
  rcases List.mem_append.1 he' with he' | he'
  · refine ty_same (fun k hk => (kp k (by have := hk.2.1; omega) hk.2.2).trans (hb k hk.1 hk.2.1)) (fun k hk => ⟨hk.1, by have := hk.2.1; omega, fun x => ?_⟩) (h.each e' he')
    injection x with x
    rcases hl with y | y
    · exact hk.2.2 (by rw [y, ← x])
    · have := hk.2.1; dsimp only at x; omega
  · obtain rfl := List.mem_singleton.1 he'
    refine ty_same (fun k hk => kp k hk.2 (fun x => by have := vlt k x; have := hk.1; omega)) (fun k hk => ⟨by have := hk.1; omega, by have := hk.2; omega, fun x => ?_⟩) he
    injection x with x
    dsimp only at x
    rcases hl with y | y
    · have := vlt g2 y; have := hk.1; omega
    · have := hk.2; omega
theorem RowK.kids {B : Nat} {w : World} {a : Option Addr} {n cap : Nat} {ks : List Ke} (h : RowK B w (.slice a n cap) ks) : n = ks.length ∧ SlAt (fun b => B ≤ b ∧ b < w.heap.size) w (ks.map Ke.t) a cap := by
  obtain ⟨a', cap', e⟩ := own_shapeT h.own
  injection e with e1 e2 e3
  refine ⟨e2, ?_⟩
  rcases h.own.2 with ⟨h1, h2⟩ | ⟨g, cp, cur, h1, h2, h3, h4, h5, _⟩
  · have hk : ks = [] := List.eq_nil_of_length_eq_zero h2
    injection h1 with q1 q2 q3
    subst q1 q3
    rw [hk]; exact ⟨by simp, by unfold maxLen; omega, by simp [KidsAt]⟩
  · injection h1 with q1 q2 q3
    subst q1
    subst q3
    refine ⟨by rw [List.length_map]; exact h4, h5, KidsAt.of_nodes ⟨h2, (Array.getElem?_eq_some_iff.1 h3).1⟩ _ 0 (fun i hi => ?_)⟩
    have hi' : i < ks.length := by simpa using hi
    have hc := h.own.cells (g := g) rfl
    have k : ∀ j, j < 3 → ∀ u, (keCells ks[i])[j]? = some u → w.cell? ⟨g, 0 + i * 3 + j, none⟩ = some u := fun j hj u hu => by
      have := hc (i * 3 + j) u (by rw [rowCells_at ks i hi' j hj]; exact hu)
      rw [add_flat] at this
      rw [show 0 + i * 3 + j = 0 + (i * 3 + j) from by omega]; exact this
    have ht := ty_same (fun _ _ => rfl) (fun k hk => (⟨hk.1, hk.2.1⟩ : B ≤ k ∧ k < w.heap.size)) (h.each ks[i] (List.getElem_mem hi'))
    have e0 : (ks.map Ke.t)[i] = ks[i].t := by simp
    rw [e0]
    exact NodeAt.mk' ht (k 0 (by omega) _ rfl) (k 1 (by omega) _ rfl) (k 2 (by omega) _ rfl)
/-- What a call that builds a type hands back. -/
def TyPost (t : T) (w : World) (e : Ending) (w' : World) : Prop := ∃ a' cap' ks, e = .returned (tv t a' cap') ∧ ks.map Ke.t = t.kids ∧ RowK w.heap.size w' (.slice a' t.kids.length cap') ks ∧ I64 t.kind ∧ I64 t.num ∧ Below w.heap.size w w'
theorem TyPost.ty {t : T} {w w' : World} {a' : Option Addr} {cap' : Nat} {ks : List Ke} (h1 : ks.map Ke.t = t.kids) (h2 : RowK w.heap.size w' (.slice a' t.kids.length cap') ks) (h3 : I64 t.kind) (h4 : I64 t.num) : TyAt (fun b => w.heap.size ≤ b ∧ b < w'.heap.size) w' t a' cap' :=
  ⟨h3, h4, by rw [← h1]; exact h2.kids.2⟩
theorem set2 {w : World} {b : Nat} {x y v v' : Value} {s : TypeId} (h : w.heap[b]? = some (.cells #[x, y, v] s)) : (w.setCell ⟨b, 2, none⟩ v').heap[b]? = some (.cells #[x, y, v'] s) := by
  obtain ⟨hlt, hk⟩ := Array.getElem?_eq_some_iff.1 h
  show (w.heap.modify b _)[b]? = _
  rw [Array.getElem?_eq_getElem (by rw [Array.size_modify]; exact hlt), Array.getElem_modify_self, hk]
  rfl
theorem size_setCell (w : World) (a : Addr) (v : Value) : (w.setCell a v).heap.size = w.heap.size := by simp [World.setCell]
theorem three_one (k n : Int) (a : Option Addr) (m c : Nat) : ∀ u ∈ [Value.int .i64 k, .int .i64 n, .slice a m c], u.oneCell' = true := by
  intro u hu
  simp only [List.mem_cons, List.not_mem_nil, or_false] at hu
  rcases hu with rfl | rfl | rfl <;> rfl
theorem b40 {r : Nat} (h : r ≤ 10000) : (r + 1) * 40 ≤ 140737488355328 ∧ r + 1 ≤ maxLen := by unfold maxLen; omega
theorem own_len {w : World} {B n m sz : Nat} {e : TypeId} {v : Value} {xs : List Value} (h : w.ownsRow B e sz v n xs) (hn : n = m) : w.ownsRow B e sz v m xs := hn ▸ h
end Go.Proofs.Ytaaapdfdedknfaa

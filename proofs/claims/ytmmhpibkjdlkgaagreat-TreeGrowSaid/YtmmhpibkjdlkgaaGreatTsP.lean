/- Two trees gone through at once, as far as both have kids: their visits and nodes, plainly. Where a walk over two trees that lie still goes on, and the law for a range over their nodes. -/
import Derived.Test.YtmmhpibkjdlkgaaGreatTeR
import Derived.Test.YtmmhpibkjdlkgaaGreatTsE
import Derived.Test.YtmmhpibkjdlkgaaGreatTeG
import Derived.Test.YtmmhpibkjdlkgaaGreatTxA
namespace Go.Proofs.YtmmhpibkjdlkgaaGreat
open Go Go.RowKit Go.Shelf

namespace Ex2
open Ex (E)
mutual
def vis : E → E → Nat → List ((E × E) × Nat × Nat) | .mk k f t nm ar n s op A B ps l, q, d => visK (.mk k f t nm ar n s op A B ps l, q) l q.kids 0 d
def visK : E × E → List E → List E → Nat → Nat → List ((E × E) × Nat × Nat)
  | t, x :: r, y :: s, i, d => (t, i, d) :: (vis x y (d + 1) ++ visK t r s (i + 1) d)
  | t, [], _, i, d => [(t, i, d)]
  | t, _ :: _, [], i, d => [(t, i, d)]
end
mutual
def pre : E → E → Nat → List ((E × E) × Nat × Nat) | .mk k f t nm ar n s op A B ps l, q, d => ((.mk k f t nm ar n s op A B ps l, q), 0, d) :: pres l q.kids (d + 1)
def pres : List E → List E → Nat → List ((E × E) × Nat × Nat)
  | x :: r, y :: s, d => pre x y d ++ pres r s d
  | [], _, _ => []
  | _ :: _, [], _ => []
end
theorem vis_kids (p q : E) (d : Nat) : vis p q d = visK (p, q) p.kids q.kids 0 d := by cases p; rfl
theorem visK_nil_left (t : E × E) (s : List E) (i d : Nat) : visK t [] s i d = [(t, i, d)] := by cases s <;> rfl
theorem visK_nil_right (t : E × E) (r : List E) (i d : Nat) : visK t r [] i d = [(t, i, d)] := by cases r <;> rfl
def shape : Shape (E × E) where
  kids t := t.1.kids.zip t.2.kids
  vk t i d := visK t (t.1.kids.drop i) (t.2.kids.drop i) i d
  more t i d h := by
    rw [List.length_zip] at h
    have h1 : i < t.1.kids.length := by omega
    have h2 : i < t.2.kids.length := by omega
    rw [List.drop_eq_getElem_cons h1, List.drop_eq_getElem_cons h2, visK, List.getElem_zip, vis_kids, List.drop_zero, List.drop_zero]
  last t i d h := by
    rw [List.length_zip] at h
    by_cases h1 : i < t.1.kids.length
    · rw [List.drop_eq_nil_of_le (show t.2.kids.length ≤ i by omega), visK_nil_right]
    · rw [List.drop_eq_nil_of_le (show t.1.kids.length ≤ i by omega), visK_nil_left]
mutual
theorem vis_len : ∀ (p q : E) (d : Nat), (vis p q d).length + 1 ≤ 2 * Ex.size p
  | .mk k f t nm ar n s op A B ps l, q, d => by
    have h := visK_len (.mk k f t nm ar n s op A B ps l, q) l q.kids 0 d
    rw [vis, Ex.size]; omega
theorem visK_len : ∀ (t : E × E) (r s : List E) (i d : Nat), (visK t r s i d).length ≤ 2 * Ex.sizes r + 1
  | t, x :: r, y :: s, i, d => by
    have h1 := vis_len x y (d + 1)
    have h2 := visK_len t r s (i + 1) d
    simp only [visK, Ex.sizes, List.length_cons, List.length_append]
    omega
  | t, [], s, i, d => by rw [visK_nil_left]; simp
  | t, x :: r, [], i, d => by rw [visK_nil_right]; simp
end
mutual
theorem vis_nodes : ∀ (p q : E) (d : Nat), ((vis p q d).filter fun k => k.2.1 == 0) = pre p q d
  | .mk k f t nm ar n s op A B ps l, q, d => by
    have h := visK_nodes (.mk k f t nm ar n s op A B ps l, q) l q.kids 0 d
    rw [vis, h, pre]; rfl
theorem visK_nodes : ∀ (t : E × E) (r s : List E) (i d : Nat), ((visK t r s i d).filter fun k => k.2.1 == 0) = (if i = 0 then [(t, 0, d)] else []) ++ pres r s (d + 1)
  | t, x :: r, y :: s, i, d => by
    have h1 := vis_nodes x y (d + 1)
    have h2 := visK_nodes t r s (i + 1) d
    rw [if_neg (by omega), List.nil_append] at h2
    rw [visK, List.filter_cons, List.filter_append, h1, h2, pres]
    by_cases h : i = 0
    · simp [h]
    · simp [h]
  | t, [], s, i, d => by
    rw [visK_nil_left]
    by_cases h : i = 0
    · simp [pres, h]
    · simp [pres, h]
  | t, x :: r, [], i, d => by
    rw [visK_nil_right]
    by_cases h : i = 0
    · simp [pres, h]
    · simp [pres, h]
end
theorem nKeys_shape (p : E × E) : nKeys shape p = pre p.1 p.2 1 := by
  show ((visK p (p.1.kids.drop 0) (p.2.kids.drop 0) 0 1).filter fun k => k.2.1 == 0) = _
  rw [List.drop_zero, List.drop_zero, ← vis_kids, vis_nodes]
theorem vk_len (p : E × E) : (shape.vk p 0 1).length ≤ 2 * Ex.size p.1 := by
  obtain ⟨p, q⟩ := p
  have := vis_len p q 1
  rw [vis_kids] at this
  show (visK (p, q) (p.kids.drop 0) (q.kids.drop 0) 0 1).length ≤ 2 * Ex.size p
  rw [List.drop_zero, List.drop_zero]; omega
end Ex2
namespace Tr2
open Tr (P)
mutual
def vis : P → P → Nat → List ((P × P) × Nat × Nat) | .mk k f t n nm s l, q, d => visK (.mk k f t n nm s l, q) l q.kids 0 d
def visK : P × P → List P → List P → Nat → Nat → List ((P × P) × Nat × Nat)
  | t, x :: r, y :: s, i, d => (t, i, d) :: (vis x y (d + 1) ++ visK t r s (i + 1) d)
  | t, [], _, i, d => [(t, i, d)]
  | t, _ :: _, [], i, d => [(t, i, d)]
end
mutual
def pre : P → P → Nat → List ((P × P) × Nat × Nat) | .mk k f t n nm s l, q, d => ((.mk k f t n nm s l, q), 0, d) :: pres l q.kids (d + 1)
def pres : List P → List P → Nat → List ((P × P) × Nat × Nat)
  | x :: r, y :: s, d => pre x y d ++ pres r s d
  | [], _, _ => []
  | _ :: _, [], _ => []
end
theorem vis_kids (p q : P) (d : Nat) : vis p q d = visK (p, q) p.kids q.kids 0 d := by cases p; rfl
theorem visK_nil_left (t : P × P) (s : List P) (i d : Nat) : visK t [] s i d = [(t, i, d)] := by cases s <;> rfl
theorem visK_nil_right (t : P × P) (r : List P) (i d : Nat) : visK t r [] i d = [(t, i, d)] := by cases r <;> rfl
def shape : Shape (P × P) where
  kids t := t.1.kids.zip t.2.kids
  vk t i d := visK t (t.1.kids.drop i) (t.2.kids.drop i) i d
  more t i d h := by
    rw [List.length_zip] at h
    have h1 : i < t.1.kids.length := by omega
    have h2 : i < t.2.kids.length := by omega
    rw [List.drop_eq_getElem_cons h1, List.drop_eq_getElem_cons h2, visK, List.getElem_zip, vis_kids, List.drop_zero, List.drop_zero]
  last t i d h := by
    rw [List.length_zip] at h
    by_cases h1 : i < t.1.kids.length
    · rw [List.drop_eq_nil_of_le (show t.2.kids.length ≤ i by omega), visK_nil_right]
    · rw [List.drop_eq_nil_of_le (show t.1.kids.length ≤ i by omega), visK_nil_left]
mutual
theorem vis_len : ∀ (p q : P) (d : Nat), (vis p q d).length + 1 ≤ 2 * Tr.size p
  | .mk k f t n nm s l, q, d => by
    have h := visK_len (.mk k f t n nm s l, q) l q.kids 0 d
    rw [vis, Tr.size]; omega
theorem visK_len : ∀ (t : P × P) (r s : List P) (i d : Nat), (visK t r s i d).length ≤ 2 * Tr.sizes r + 1
  | t, x :: r, y :: s, i, d => by
    have h1 := vis_len x y (d + 1)
    have h2 := visK_len t r s (i + 1) d
    simp only [visK, Tr.sizes, List.length_cons, List.length_append]
    omega
  | t, [], s, i, d => by rw [visK_nil_left]; simp
  | t, x :: r, [], i, d => by rw [visK_nil_right]; simp
end
mutual
theorem vis_nodes : ∀ (p q : P) (d : Nat), ((vis p q d).filter fun k => k.2.1 == 0) = pre p q d
  | .mk k f t n nm s l, q, d => by
    have h := visK_nodes (.mk k f t n nm s l, q) l q.kids 0 d
    rw [vis, h, pre]; rfl
theorem visK_nodes : ∀ (t : P × P) (r s : List P) (i d : Nat), ((visK t r s i d).filter fun k => k.2.1 == 0) = (if i = 0 then [(t, 0, d)] else []) ++ pres r s (d + 1)
  | t, x :: r, y :: s, i, d => by
    have h1 := vis_nodes x y (d + 1)
    have h2 := visK_nodes t r s (i + 1) d
    rw [if_neg (by omega), List.nil_append] at h2
    rw [visK, List.filter_cons, List.filter_append, h1, h2, pres]
    by_cases h : i = 0
    · simp [h]
    · simp [h]
  | t, [], s, i, d => by
    rw [visK_nil_left]
    by_cases h : i = 0
    · simp [pres, h]
    · simp [pres, h]
  | t, x :: r, [], i, d => by
    rw [visK_nil_right]
    by_cases h : i = 0
    · simp [pres, h]
    · simp [pres, h]
end
theorem nKeys_shape (p : P × P) : nKeys shape p = pre p.1 p.2 1 := by
  show ((visK p (p.1.kids.drop 0) (p.2.kids.drop 0) 0 1).filter fun k => k.2.1 == 0) = _
  rw [List.drop_zero, List.drop_zero, ← vis_kids, vis_nodes]
theorem vk_len (p : P × P) : (shape.vk p 0 1).length ≤ 2 * Tr.size p.1 := by
  obtain ⟨p, q⟩ := p
  have := vis_len p q 1
  rw [vis_kids] at this
  show (visK (p, q) (p.kids.drop 0) (q.kids.drop 0) 0 1).length ≤ 2 * Tr.size p
  rw [List.drop_zero, List.drop_zero]; omega
end Tr2
open Tr (P)
open Ex (E)
namespace Tr
/-- Two nodes, whatever their kids are. -/
def alike (x y : P) : Bool := decide (x.kind = y.kind) && decide (x.nm = y.nm) && decide (x.num = y.num) && decide (x.s = y.s) && decide (x.kids.length = y.kids.length)
mutual
def same : P → P → Bool | .mk k f t n nm s l, q => alike (.mk k f t n nm s l) q && sames l q.kids
def sames : List P → List P → Bool
  | x :: r, y :: s => same x y && sames r s
  | [], _ => true
  | _ :: _, [] => true
end
mutual
theorem pre_same : ∀ (p q : P) (d : Nat), ((Tr2.pre p q d).all fun k => alike k.1.1 k.1.2) = same p q
  | .mk k f t n nm s l, q, d => by rw [Tr2.pre, List.all_cons, pres_same l q.kids (d + 1), same]
theorem pres_same : ∀ (r s : List P) (d : Nat), ((Tr2.pres r s d).all fun k => alike k.1.1 k.1.2) = sames r s
  | x :: r, y :: s, d => by rw [Tr2.pres, List.all_append, pre_same x y d, pres_same r s d, sames]
  | [], _, _ => by simp [Tr2.pres, sames]
  | _ :: _, [], _ => by simp [Tr2.pres, sames]
end
end Tr
namespace Ex
/-- Patterns side by side. -/
def patsAlike (l m : List Tr.P) : Bool := decide (l.length = m.length) && Tr.sames l m
/-- Two nodes, whatever their kids are. -/
def alike (x y : E) : Bool := decide (x.kind = y.kind) && decide (x.nm = y.nm) && decide (x.ar = y.ar) && decide (x.num = y.num) && decide (x.s = y.s) && decide (x.op = y.op) && Tp.same x.a y.a && Tp.same x.b y.b && patsAlike x.pats y.pats && decide (x.kids.length = y.kids.length)
mutual
def same : E → E → Bool | .mk k f t nm ar n s op A B ps l, q => alike (.mk k f t nm ar n s op A B ps l) q && sames l q.kids
def sames : List E → List E → Bool
  | x :: r, y :: s => same x y && sames r s
  | [], _ => true
  | _ :: _, [] => true
end
mutual
theorem pre_same : ∀ (p q : E) (d : Nat), ((Ex2.pre p q d).all fun k => alike k.1.1 k.1.2) = same p q
  | .mk k f t nm ar n s op A B ps l, q, d => by rw [Ex2.pre, List.all_cons, pres_same l q.kids (d + 1), same]
theorem pres_same : ∀ (r s : List E) (d : Nat), ((Ex2.pres r s d).all fun k => alike k.1.1 k.1.2) = sames r s
  | x :: r, y :: s, d => by rw [Ex2.pres, List.all_append, pre_same x y d, pres_same r s d, sames]
  | [], _, _ => by simp [Ex2.pres, sames]
  | _ :: _, [], _ => by simp [Ex2.pres, sames]
end
end Ex
end Go.Proofs.YtmmhpibkjdlkgaaGreat
namespace Go.Proofs.YtmmhpibkjdlkgaaGreat
open Go Go.RowKit Go.Shelf
open Tr (P)
open Ex (E)

/-- Where both nodes of a visit lie. -/
def Pl2At (G : Nat → Prop) (W : World) (x : V2 (P × P)) : Prop := ∃ b o b' o', x.p = some ⟨b, o, none⟩ ∧ x.q = some ⟨b', o', none⟩ ∧ (G b ∧ G b') ∧ PNode G W x.t.1 b o ∧ PNode G W x.t.2 b' o'
theorem next_bothP {n Bo : Nat} {w V : World} {y : V2 (P × P)} (hb : Below n w V) (hn : n ≤ V.heap.size) (c0 : V.cell? ⟨Bo, 0, none⟩ = some (.func (.func 80) #[] #[])) (h : Pl2At (LT n) w y) :
    Next2N 153 Bo Tr2.shape V y fun x => Pl2At (LT n) w x := fun i hi => by
  obtain ⟨b, o, b', o', hp, hq, ⟨hG, hG'⟩, hn1, hn2⟩ := h
  obtain ⟨a, cap, hat, hc⟩ := hn1.pat
  obtain ⟨a', cap', hat', hc'⟩ := hn2.pat
  have hk1 := hat.2.2.2
  have hk2 := hat'.2.2.2
  have hcall := ofBothP_any b o cap b' o' cap' Bo i y.t.1 y.t.2 a a' V ⟨Nat.lt_of_lt_of_le hG hn, Nat.lt_of_lt_of_le hG' hn, cell_lt c0⟩ c0 (pc_below hb hG hc) (pc_below hb hG' hc') (fun h0 => by
    obtain ⟨kb, ko, e, _⟩ := hk1.first h0
    exact ⟨kb, ko, e⟩) (fun h0 => by
    obtain ⟨kb, ko, e, _⟩ := hk2.first h0
    exact ⟨kb, ko, e⟩)
  dsimp only
  rw [hp, hq]
  refine hcall.mono ?_
  rintro e W' ⟨⟨p, q, rfl, h1, h2⟩, hbw⟩
  refine ⟨⟨hbw.os, hbw.tape, hbw.output, hbw.size, fun k hk _ => hbw.block k hk⟩, ?_⟩
  by_cases hl : i < y.t.1.kids.length ∧ i < y.t.2.kids.length
  · obtain ⟨hl1, hl2⟩ := hl
    have hz : i < (y.t.1.kids.zip y.t.2.kids).length := by rw [List.length_zip]; omega
    have ez : (y.t.1.kids.zip y.t.2.kids)[i]'hz = (y.t.1.kids[i], y.t.2.kids[i]) := List.getElem_zip
    refine .inl ⟨hz, p, q, by rw [decide_eq_true hl1, decide_eq_true hl2]; rfl, ?_⟩
    have e1 := h1 hl1
    have e2 := h2 hl2
    obtain ⟨kb, ko, ea, hGa, hka⟩ := hk1.first (by omega)
    obtain ⟨kb', ko', ea', hGa', hka'⟩ := hk2.first (by omega)
    rw [ea] at e1
    rw [ea'] at e2
    refine ⟨kb, ko + i * 7, kb', ko' + i * 7, e1, e2, ⟨hGa, hGa'⟩, ?_, ?_⟩
    · show PNode (LT n) w ((y.t.1.kids.zip y.t.2.kids)[i]'hz).1 _ _
      rw [ez]; exact hka i hl1
    · show PNode (LT n) w ((y.t.1.kids.zip y.t.2.kids)[i]'hz).2 _ _
      rw [ez]; exact hka' i hl2
  · refine .inr ⟨?_, p, q, ?_⟩
    · show ¬ i < (y.t.1.kids.zip y.t.2.kids).length
      rw [List.length_zip]; omega
    · by_cases hl1 : i < y.t.1.kids.length
      · have hl2 : ¬ i < y.t.2.kids.length := fun h => hl ⟨hl1, h⟩
        rw [decide_eq_true hl1, decide_eq_false hl2]; rfl
      · rw [decide_eq_false hl1]; rfl
theorem wpIn_range_pat2 {g : Operand} {ps : Array Tmp} {assign body : Code} {Q : Exit → Act → World → Prop} {a : Act} {w : World} {Bt Bk Bo n b o b' o' : Nat} {p q : P}
    (hg : a.eval g = .func (.func 151) #[] #[.pointer (some ⟨Bt, 0, none⟩), .pointer (some ⟨Bk, 0, none⟩)]) (hn : n ≤ w.heap.size) (hpl : Pl2At (LT n) w ⟨(p, q), some ⟨b, o, none⟩, some ⟨b', o', none⟩, 0, 1⟩) (hsz : Tr.size p ≤ 500000)
    (c0 : w.cell? ⟨Bt, 0, none⟩ = some (.pointer (some ⟨b, o, none⟩))) (cq : w.cell? ⟨Bt, 1, none⟩ = some (.pointer (some ⟨b', o', none⟩))) (c1 : w.cell? ⟨Bk, 0, none⟩ = some (.func (.func 153) #[] #[.pointer (some ⟨Bo, 0, none⟩)]))
    {ot : TypeId} (ho : w.heap[Bo]? = some (.cells #[.func (.func 80) #[] #[]] ot)) (hps : ps.size = 2)
    (I : (Nat → Prop) → List (V2 (P × P)) → World → Prop) (Ix : Code → (Nat → Prop) → List (V2 (P × P)) → World → Prop) (Ax : V2 (P × P) → Act → (Nat → Prop) → World → Prop)
    (hI : ∀ s, Ab w.heap.size fun M W => I M s W) (hIx : ∀ c s, Ab w.heap.size fun M W => Ix c M s W) (hAx : ∀ x a', Ab w.heap.size fun M W => Ax x a' M W) (h0 : I (fun _ => False) [] w)
    (hassign : ∀ (l : Nat) (M : Nat → Prop) (pre : List (V2 (P × P))) (x : V2 (P × P)) (W : World) (K : Act → World → Prop), I M pre W → (∀ k, M k → w.heap.size ≤ k ∧ k < W.heap.size) → no2Ok Tr2.shape (p, q) pre x → Pl2At (LT n) w x →
      (∀ a' W', Turns (fun _ => False) W W' → Ax x a' M W' → K a' W') →
      assign.wpIn (Fence.wide.inRound l) 8 Tryz.prog (Exit.then K (fun _ _ _ => False)) { tmps := (ps.zip x.enc2).foldl (fun t (p, v) => t.setIfInBounds p v) a.tmps, defers := [] } W)
    (hbody : ∀ (l : Nat) (M : Nat → Prop) (pre : List (V2 (P × P))) (x : V2 (P × P)) (a' : Act) (W : World), I M pre W → Below n w W → (∀ k, M k → w.heap.size ≤ k ∧ k < W.heap.size) → w.heap.size ≤ W.heap.size → no2Ok Tr2.shape (p, q) pre x → Pl2At (LT n) w x → Ax x a' M W →
      body.wpIn (Fence.wide.inRound l) 8 Tryz.prog (atPost (fun k => n ≤ k ∧ k ≠ Bo) M I Ix (pre ++ [x]) W) a' W)
    (hdone : ∀ (D : Nat) (M : Nat → Prop) (xs : List (V2 (P × P))) (W : World), w.heap.size ≤ D → M D → (∀ k, M k → w.heap.size ≤ k ∧ k < W.heap.size) → no2All Tr2.shape (p, q) xs → I M xs W → W.heap[D]? = some (.deferred (some [])) → Q .normal { a with defers := { target := .collected D, args := #[] } :: a.defers } W)
    (hstop : ∀ (D : Nat) (M : Nat → Prop) (c : Code) (pre : List (V2 (P × P))) (W : World), w.heap.size ≤ D → M D → (∀ k, M k → w.heap.size ≤ k ∧ k < W.heap.size) → Ix c M pre W → W.heap[D]? = some (.deferred (some [])) → c.wpIn Fence.wide 9 Tryz.prog Q { a with defers := { target := .collected D, args := #[] } :: a.defers } W) :
    (Code.rangeFunc g ps assign body).wpIn Fence.wide 9 Tryz.prog Q a w := by
  have hBo : Bo < w.heap.size := (Array.getElem?_eq_some_iff.1 ho).1
  refine wpIn_range_at hg (enters_of Tryz.func151 (by kernel_rfl) rfl)
    (nodes2P_seq Tr2.shape (p, q) (Nat.le_trans (Tr2.vk_len (p, q)) (show 2 * Tr.size p ≤ 1000000 by omega)) (fun k => n ≤ k ∧ k ≠ Bo) Bt Bk Bo (some ⟨b, o, none⟩) (some ⟨b', o', none⟩) w (fun k h => ⟨Nat.le_trans hn h, by omega⟩) c0 cq c1)
    (fun _ _ _ _ hK h i => Next2.mono hK (h i)) (Below.refl _ _) (fun k h => ⟨Nat.le_trans hn h, by omega⟩) (fun _ => hps.symm)
    (fun M pre V => I M pre V ∧ (V.heap[Bo]? = some (.cells #[.func (.func 80) #[] #[]] ot) ∧ ¬ M Bo) ∧ Below n w V ∧ ∀ y ∈ pre, Pl2At (LT n) w y) (fun _ _ x V => Below n w V ∧ Pl2At (LT n) w x) Ix Ax
    (fun s => Ab.and (hI s) (Ab.and (Ab.block _ _ _) (Ab.and (Ab.below hn w hn) (Ab.pure _ _)))) hIx hAx ⟨h0, ⟨ho, fun h => h⟩, Below.refl _ _, fun _ h => by cases h⟩ (fun _ _ => Ab.and (Ab.below hn w hn) (Ab.pure _ _)) ⟨Below.refl _ _, hpl⟩ ?next ?assign ?body ?done hstop
  case next =>
    rintro M pre y V ⟨_, ⟨ho2, _⟩, h1, h2⟩ _ _ hy i
    exact Next2.mono (fun x hx => ⟨h1, hx⟩) (next_bothP h1 (Nat.le_trans hn h1.size) (cell_box ho2 rfl rfl) (h2 y hy) i)
  case assign =>
    rintro l M pre x V K ⟨h1, _⟩ hM hok hf hK
    exact hassign l M pre x V K h1 hM hok (hf trivial).2 hK
  case body =>
    rintro l M pre x a' V ⟨h1, ⟨ho2, hoM⟩, h2, h3⟩ hM hle hok hf hax
    refine wpIn_mono (hbody l M pre x a' V h1 h2 hM hle hok (hf trivial).2 hax) ?_
    intro e a3 V2 hp
    cases e with
    | normal =>
      obtain ⟨hT, hi⟩ := hp
      refine ⟨hT, hi, ⟨hT.heap ho2 (fun h => h.1.2 rfl), hoM⟩, hT.below h2 (fun k h => h.1.1) (Nat.le_trans hn h2.size), fun y hy => ?_⟩
      rcases List.mem_append.1 hy with hy | hy
      · exact h3 y hy
      · obtain rfl := List.mem_singleton.1 hy
        exact (hf trivial).2
    | ret => exact hp
    | exit id => exact hp
    | goto t => exact hp
    | panic ch => exact hp
    | outgrown => exact hp
  case done =>
    rintro D M xs V hD hMD hM hS ⟨hi, _⟩ hK
    exact hdone D M xs V hD hMD hM hS hi hK

/-- Where both nodes of a visit lie. -/
def El2At (G : Nat → Prop) (W : World) (x : V2 (E × E)) : Prop := ∃ b o b' o', x.p = some ⟨b, o, none⟩ ∧ x.q = some ⟨b', o', none⟩ ∧ (G b ∧ G b') ∧ ENode G W x.t.1 b o ∧ ENode G W x.t.2 b' o'
theorem next_bothE {n Bo : Nat} {w V : World} {y : V2 (E × E)} (hb : Below n w V) (hn : n ≤ V.heap.size) (c0 : V.cell? ⟨Bo, 0, none⟩ = some (.func (.func 51) #[] #[])) (h : El2At (LT n) w y) :
    Next2N 124 Bo Ex2.shape V y fun x => El2At (LT n) w x := fun i hi => by
  obtain ⟨b, o, b', o', hp, hq, ⟨hG, hG'⟩, hn1, hn2⟩ := h
  obtain ⟨_, a, cap, hc, _, _, hk1⟩ := hn1.kidsAt
  obtain ⟨_, a', cap', hc', _, _, hk2⟩ := hn2.kidsAt
  have hcall := ofBothE_any b o y.t.1.kids.length cap b' o' y.t.2.kids.length cap' Bo i a a' V ⟨Nat.lt_of_lt_of_le hG hn, Nat.lt_of_lt_of_le hG' hn, cell_lt c0⟩ c0 ((hb.cell (p := ⟨b, o + 15, none⟩) hG).trans hc) ((hb.cell (p := ⟨b', o' + 15, none⟩) hG').trans hc') (fun h0 => by
    obtain ⟨kb, ko, e, _⟩ := hk1.first h0
    exact ⟨kb, ko, e⟩) (fun h0 => by
    obtain ⟨kb, ko, e, _⟩ := hk2.first h0
    exact ⟨kb, ko, e⟩)
  dsimp only
  rw [hp, hq]
  refine hcall.mono ?_
  rintro e W' ⟨⟨p, q, rfl, h1, h2⟩, hbw⟩
  refine ⟨⟨hbw.os, hbw.tape, hbw.output, hbw.size, fun k hk _ => hbw.block k hk⟩, ?_⟩
  by_cases hl : i < y.t.1.kids.length ∧ i < y.t.2.kids.length
  · obtain ⟨hl1, hl2⟩ := hl
    have hz : i < (y.t.1.kids.zip y.t.2.kids).length := by rw [List.length_zip]; omega
    have ez : (y.t.1.kids.zip y.t.2.kids)[i]'hz = (y.t.1.kids[i], y.t.2.kids[i]) := List.getElem_zip
    refine .inl ⟨hz, p, q, by rw [decide_eq_true hl1, decide_eq_true hl2]; rfl, ?_⟩
    have e1 := h1 hl1
    have e2 := h2 hl2
    obtain ⟨kb, ko, ea, hGa, hka⟩ := hk1.first (by omega)
    obtain ⟨kb', ko', ea', hGa', hka'⟩ := hk2.first (by omega)
    rw [ea] at e1
    rw [ea'] at e2
    refine ⟨kb, ko + i * 16, kb', ko' + i * 16, e1, e2, ⟨hGa, hGa'⟩, ?_, ?_⟩
    · show ENode (LT n) w ((y.t.1.kids.zip y.t.2.kids)[i]'hz).1 _ _
      rw [ez]; exact hka i hl1
    · show ENode (LT n) w ((y.t.1.kids.zip y.t.2.kids)[i]'hz).2 _ _
      rw [ez]; exact hka' i hl2
  · refine .inr ⟨?_, p, q, ?_⟩
    · show ¬ i < (y.t.1.kids.zip y.t.2.kids).length
      rw [List.length_zip]; omega
    · by_cases hl1 : i < y.t.1.kids.length
      · have hl2 : ¬ i < y.t.2.kids.length := fun h => hl ⟨hl1, h⟩
        rw [decide_eq_true hl1, decide_eq_false hl2]; rfl
      · rw [decide_eq_false hl1]; rfl
theorem wpIn_range_expr2 {g : Operand} {ps : Array Tmp} {assign body : Code} {Q : Exit → Act → World → Prop} {a : Act} {w : World} {Bt Bk Bo n b o b' o' : Nat} {p q : E}
    (hg : a.eval g = .func (.func 122) #[] #[.pointer (some ⟨Bt, 0, none⟩), .pointer (some ⟨Bk, 0, none⟩)]) (hn : n ≤ w.heap.size) (hpl : El2At (LT n) w ⟨(p, q), some ⟨b, o, none⟩, some ⟨b', o', none⟩, 0, 1⟩) (hsz : Ex.size p ≤ 500000)
    (c0 : w.cell? ⟨Bt, 0, none⟩ = some (.pointer (some ⟨b, o, none⟩))) (cq : w.cell? ⟨Bt, 1, none⟩ = some (.pointer (some ⟨b', o', none⟩))) (c1 : w.cell? ⟨Bk, 0, none⟩ = some (.func (.func 124) #[] #[.pointer (some ⟨Bo, 0, none⟩)]))
    {ot : TypeId} (ho : w.heap[Bo]? = some (.cells #[.func (.func 51) #[] #[]] ot)) (hps : ps.size = 2)
    (I : (Nat → Prop) → List (V2 (E × E)) → World → Prop) (Ix : Code → (Nat → Prop) → List (V2 (E × E)) → World → Prop) (Ax : V2 (E × E) → Act → (Nat → Prop) → World → Prop)
    (hI : ∀ s, Ab w.heap.size fun M W => I M s W) (hIx : ∀ c s, Ab w.heap.size fun M W => Ix c M s W) (hAx : ∀ x a', Ab w.heap.size fun M W => Ax x a' M W) (h0 : I (fun _ => False) [] w)
    (hassign : ∀ (l : Nat) (M : Nat → Prop) (pre : List (V2 (E × E))) (x : V2 (E × E)) (W : World) (K : Act → World → Prop), I M pre W → (∀ k, M k → w.heap.size ≤ k ∧ k < W.heap.size) → no2Ok Ex2.shape (p, q) pre x → El2At (LT n) w x →
      (∀ a' W', Turns (fun _ => False) W W' → Ax x a' M W' → K a' W') →
      assign.wpIn (Fence.wide.inRound l) 8 Tryz.prog (Exit.then K (fun _ _ _ => False)) { tmps := (ps.zip x.enc2).foldl (fun t (p, v) => t.setIfInBounds p v) a.tmps, defers := [] } W)
    (hbody : ∀ (l : Nat) (M : Nat → Prop) (pre : List (V2 (E × E))) (x : V2 (E × E)) (a' : Act) (W : World), I M pre W → Below n w W → (∀ k, M k → w.heap.size ≤ k ∧ k < W.heap.size) → w.heap.size ≤ W.heap.size → no2Ok Ex2.shape (p, q) pre x → El2At (LT n) w x → Ax x a' M W →
      body.wpIn (Fence.wide.inRound l) 8 Tryz.prog (atPost (fun k => n ≤ k ∧ k ≠ Bo) M I Ix (pre ++ [x]) W) a' W)
    (hdone : ∀ (D : Nat) (M : Nat → Prop) (xs : List (V2 (E × E))) (W : World), w.heap.size ≤ D → M D → (∀ k, M k → w.heap.size ≤ k ∧ k < W.heap.size) → no2All Ex2.shape (p, q) xs → I M xs W → W.heap[D]? = some (.deferred (some [])) → Q .normal { a with defers := { target := .collected D, args := #[] } :: a.defers } W)
    (hstop : ∀ (D : Nat) (M : Nat → Prop) (c : Code) (pre : List (V2 (E × E))) (W : World), w.heap.size ≤ D → M D → (∀ k, M k → w.heap.size ≤ k ∧ k < W.heap.size) → Ix c M pre W → W.heap[D]? = some (.deferred (some [])) → c.wpIn Fence.wide 9 Tryz.prog Q { a with defers := { target := .collected D, args := #[] } :: a.defers } W) :
    (Code.rangeFunc g ps assign body).wpIn Fence.wide 9 Tryz.prog Q a w := by
  have hBo : Bo < w.heap.size := (Array.getElem?_eq_some_iff.1 ho).1
  refine wpIn_range_at hg (enters_of Tryz.func122 (by kernel_rfl) rfl)
    (nodes2E_seq Ex2.shape (p, q) (Nat.le_trans (Ex2.vk_len (p, q)) (show 2 * Ex.size p ≤ 1000000 by omega)) (fun k => n ≤ k ∧ k ≠ Bo) Bt Bk Bo (some ⟨b, o, none⟩) (some ⟨b', o', none⟩) w (fun k h => ⟨Nat.le_trans hn h, by omega⟩) c0 cq c1)
    (fun _ _ _ _ hK h i => Next2.mono hK (h i)) (Below.refl _ _) (fun k h => ⟨Nat.le_trans hn h, by omega⟩) (fun _ => hps.symm)
    (fun M pre V => I M pre V ∧ (V.heap[Bo]? = some (.cells #[.func (.func 51) #[] #[]] ot) ∧ ¬ M Bo) ∧ Below n w V ∧ ∀ y ∈ pre, El2At (LT n) w y) (fun _ _ x V => Below n w V ∧ El2At (LT n) w x) Ix Ax
    (fun s => Ab.and (hI s) (Ab.and (Ab.block _ _ _) (Ab.and (Ab.below hn w hn) (Ab.pure _ _)))) hIx hAx ⟨h0, ⟨ho, fun h => h⟩, Below.refl _ _, fun _ h => by cases h⟩ (fun _ _ => Ab.and (Ab.below hn w hn) (Ab.pure _ _)) ⟨Below.refl _ _, hpl⟩ ?next ?assign ?body ?done hstop
  case next =>
    rintro M pre y V ⟨_, ⟨ho2, _⟩, h1, h2⟩ _ _ hy i
    exact Next2.mono (fun x hx => ⟨h1, hx⟩) (next_bothE h1 (Nat.le_trans hn h1.size) (cell_box ho2 rfl rfl) (h2 y hy) i)
  case assign =>
    rintro l M pre x V K ⟨h1, _⟩ hM hok hf hK
    exact hassign l M pre x V K h1 hM hok (hf trivial).2 hK
  case body =>
    rintro l M pre x a' V ⟨h1, ⟨ho2, hoM⟩, h2, h3⟩ hM hle hok hf hax
    refine wpIn_mono (hbody l M pre x a' V h1 h2 hM hle hok (hf trivial).2 hax) ?_
    intro e a3 V2 hp
    cases e with
    | normal =>
      obtain ⟨hT, hi⟩ := hp
      refine ⟨hT, hi, ⟨hT.heap ho2 (fun h => h.1.2 rfl), hoM⟩, hT.below h2 (fun k h => h.1.1) (Nat.le_trans hn h2.size), fun y hy => ?_⟩
      rcases List.mem_append.1 hy with hy | hy
      · exact h3 y hy
      · obtain rfl := List.mem_singleton.1 hy
        exact (hf trivial).2
    | ret => exact hp
    | exit id => exact hp
    | goto t => exact hp
    | panic ch => exact hp
    | outgrown => exact hp
  case done =>
    rintro D M xs V hD hMD hM hS ⟨hi, _⟩ hK
    exact hdone D M xs V hD hMD hM hS hi hK
end Go.Proofs.YtmmhpibkjdlkgaaGreat

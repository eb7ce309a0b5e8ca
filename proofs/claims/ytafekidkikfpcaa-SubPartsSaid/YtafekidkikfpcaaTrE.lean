/- Walks: the page's vars, Vars; Heavy. -/
import Derived.Test.YtafekidkikfpcaaTkA
namespace Go.Proofs.Ytafekidkikfpcaa
open Go Go.RowKit
open Tp (T)

theorem kid_in {n : Nat} {w wr : World} {t : T} {a : Option Addr} {cap : Nat} (h : TyAt (LT n) w t a cap) (hb : Below n w wr) {k : Nat} (hk : k < t.kids.length) :
    ∃ b o xa xcap, a = some ⟨b, o, none⟩ ∧ b < n ∧ TyAt (LT n) wr t.kids[k] xa xcap ∧ wr.cell? ⟨b, o + k * 3, none⟩ = some (.int .i64 t.kids[k].kind) ∧ wr.cell? ⟨b, o + k * 3 + 1, none⟩ = some (.int .i64 t.kids[k].num) ∧
      wr.cell? ⟨b, o + k * 3 + 2, none⟩ = some (.slice xa t.kids[k].kids.length xcap) := by
  have h2 := h.below hb (fun _ h => h) (fun b h => h)
  obtain ⟨b, o, rfl, hbn, hN⟩ := h2.2.2.2.2.first (by omega)
  obtain ⟨xa, xcap, q1, q2, q3, q4⟩ := (hN k hk).ty
  exact ⟨b, o, xa, xcap, rfl, hbn, q1, q2, q3, q4⟩
theorem varss_append : ∀ (l m : List T) (acc : List Int), Tp.varss (l ++ m) acc = Tp.varss m (Tp.varss l acc)
  | [], _, _ => rfl
  | t :: r, m, acc => by simp only [List.cons_append, Tp.varss, varss_append r m]
theorem varss_take (l : List T) (k : Nat) (h : k < l.length) (acc : List Int) : Tp.varss (l.take (k + 1)) acc = Tp.vars l[k] (Tp.varss (l.take k) acc) := by
  rw [List.take_succ_eq_append_getElem h, varss_append]; rfl
theorem vars_kids (t : T) (acc : List Int) : Tp.vars t acc = Tp.varss t.kids (Tp.addVar t.kind t.num acc) := by cases t; rfl
mutual
theorem vars_length : ∀ (t : T) (acc : List Int), (Tp.vars t acc).length ≤ acc.length + Tp.size t
  | .mk k n l, acc => by
    have h := varss_length l (Tp.addVar k n acc)
    have h2 : (Tp.addVar k n acc).length ≤ acc.length + 1 := by unfold Tp.addVar; split <;> simp
    simp only [Tp.vars, Tp.size]; omega
theorem varss_length : ∀ (l : List T) (acc : List Int), (Tp.varss l acc).length ≤ acc.length + Tp.sizes l
  | [], acc => by simp [Tp.varss, Tp.sizes]
  | t :: r, acc => by
    have h1 := vars_length t acc
    have h2 := varss_length r (Tp.vars t acc)
    simp only [Tp.varss, Tp.sizes]; omega
end
/-- What the page's vars hands back: the row, grown. -/
def VPost (B : Nat) (L : List Int) (v : Value) (w : World) (e : Ending) (w' : World) : Prop :=
  ∃ v', e = .returned v' ∧ w'.ownsRow B 3 1 v' L.length (L.map (Value.int .i64)) ∧ (w.heap.size ≤ w'.heap.size ∧ w'.os = w.os ∧ w'.tape = w.tape ∧ w'.output = w.output ∧ ∀ k, k < w.heap.size → v.ownBlock ≠ some k → w'.heap[k]? = w.heap[k]?) ∧ ∀ g, v'.ownBlock = some g → v.ownBlock = some g ∨ w.heap.size ≤ g
theorem info_int' : (Try.prog.info? 3).map (fun i => (i.zero, i.size, i.bytes)) = some (some (.int .i64 0), 1, 8) := by kernel_rfl
theorem b8' {n : Nat} (h : n ≤ 20000) : n + 1 ≤ maxLen ∧ (n + 1) * 8 ≤ 140737488355328 ∧ n ≤ 1000000 := by unfold maxLen; omega
/-- The page's loop over the kids: what has turned since. -/
structure Kept (B : Nat) (v0 : Value) (w0 wr : World) (v : Value) (acc : List Int) : Prop where
  own : wr.ownsRow B 3 1 v acc.length (acc.map (Value.int .i64))
  size : w0.heap.size ≤ wr.heap.size
  os : wr.os = w0.os
  tape : wr.tape = w0.tape
  output : wr.output = w0.output
  block : ∀ k, k < w0.heap.size → v0.ownBlock ≠ some k → wr.heap[k]? = w0.heap[k]?
  lies : ∀ g, v.ownBlock = some g → v0.ownBlock = some g ∨ w0.heap.size ≤ g
theorem Kept.refl {B : Nat} {v : Value} {w : World} {acc : List Int} (h : w.ownsRow B 3 1 v acc.length (acc.map (Value.int .i64))) : Kept B v w w v acc := ⟨h, Nat.le_refl _, rfl, rfl, rfl, fun _ _ _ => rfl, fun _ h => .inl h⟩
theorem Kept.trans {B : Nat} {v0 v v' : Value} {w0 w w' : World} {acc acc' : List Int} (h : Kept B v0 w0 w v acc) (k : Kept B v w w' v' acc') : Kept B v0 w0 w' v' acc' :=
  ⟨k.own, Nat.le_trans h.size k.size, k.os.trans h.os, k.tape.trans h.tape, k.output.trans h.output, fun i hi hn => (k.block i (Nat.lt_of_lt_of_le hi h.size) (fun e => (h.lies i e).elim hn (fun x => absurd hi (Nat.not_lt.2 x)))).trans (h.block i hi hn),
    fun g hg => by
      rcases k.lies g hg with x | x
      · exact h.lies g x
      · exact .inr (Nat.le_trans h.size x)⟩
theorem Kept.below {B : Nat} {v0 v : Value} {w0 w : World} {acc acc0 : List Int} (h : Kept B v0 w0 w v acc) (h0 : w0.ownsRow B 3 1 v0 acc0.length (acc0.map (Value.int .i64))) (hB : B ≤ w0.heap.size) : Below B w0 w :=
  ⟨h.os, h.tape, h.output, h.size, fun k hk => h.block k (Nat.lt_of_lt_of_le hk hB) (fun e => by have := (h0.lt k e).1; omega)⟩
theorem Kept.post {B : Nat} {v0 v : Value} {w0 w : World} {acc : List Int} (h : Kept B v0 w0 w v acc) : VPost B acc v0 w0 (.returned v) w := ⟨v, rfl, h.own, ⟨h.size, h.os, h.tape, h.output, h.block⟩, h.lies⟩
theorem VPost.kept {B : Nat} {v0 : Value} {w0 w : World} {acc : List Int} {e : Ending} (h : VPost B acc v0 w0 e w) : ∃ v, e = .returned v ∧ Kept B v0 w0 w v acc := by
  obtain ⟨v, h1, h2, ⟨a, b, c, d, f⟩, g⟩ := h
  exact ⟨v, h1, h2, a, b, c, d, f, g⟩
/-- A box of another type is none of the row's blocks. -/
theorem box_far {B n : Nat} {w : World} {v : Value} {xs : List Value} {b : Nat} {A : Array Value} {s : TypeId} (h : w.ownsRow B 3 1 v n xs) (hb : w.heap[b]? = some (.cells A s)) (hs : s ≠ 3) : v.ownBlock ≠ some b := fun e => by
  rcases h.2 with ⟨h1, _⟩ | ⟨g, cap, cur, h1, _, h3, _⟩
  · rw [h1] at e; cases e
  · rw [h1] at e; injection e with e; dsimp only at e; rw [e, hb] at h3; injection h3 with h3; injection h3 with h4 h5; exact hs h5
theorem Kept.alloc {B : Nat} {v : Value} {w : World} {acc : List Int} (h : w.ownsRow B 3 1 v acc.length (acc.map (Value.int .i64))) (o : Obj) : Kept B v w (w.alloc o) v acc :=
  ⟨h.alloc o, by simp, rfl, rfl, rfl, fun k hk _ => Below.heap_alloc _ _ _ hk, fun _ h => .inl h⟩
theorem Kept.push {B : Nat} {v : Value} {w w' : World} {o : Obj} {g cap : Nat} {acc : List Int} {x : Int} (hown : w'.ownsRow B 3 1 (.slice (some ⟨g, 0, none⟩) (acc.length + 1) cap) (acc.length + 1) (acc.map (Value.int .i64) ++ [.int .i64 x])) (hg : (w.alloc o).grownBy w' v.ownBlock) (hl : v.ownBlock = some g ∨ g = (w.alloc o).heap.size) :
    Kept B v w w' (.slice (some ⟨g, 0, none⟩) (acc.length + 1) cap) (acc ++ [x]) := by
  have hz := hg.size
  rw [World.size_alloc] at hz
  refine ⟨by rw [List.length_append, List.map_append]; exact hown, by omega, hg.os, hg.tape, hg.output, fun k hk hn => (hg.block k (by rw [World.size_alloc]; omega) (fun e => hn e.symm)).trans (Below.heap_alloc _ _ _ hk), fun y hy => ?_⟩
  injection hy with hy
  dsimp only at hy
  rcases hl with h | h
  · exact .inl (by rw [h, hy])
  · rw [World.size_alloc] at h; exact .inr (by omega)

theorem news1 (w : World) (A : Array Value) (s : TypeId) (x : Int) (u : TypeId) : ∀ j v, [Value.int .i64 x][j]? = some v → ((w.alloc (.cells A s)).alloc (.cells #[.int .i64 x] u)).cell? ((⟨w.heap.size + 1, 0, none⟩ : Addr).add j) = some v := fun j v hv =>
  World.news_of_block (box2 w A #[.int .i64 x] s u) j v hv

end Go.Proofs.Ytafekidkikfpcaa

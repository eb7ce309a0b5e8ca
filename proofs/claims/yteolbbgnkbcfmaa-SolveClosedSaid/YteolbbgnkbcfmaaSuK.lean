/- Put's loop between two rounds; cuts of rows of numbers. -/
import Derived.Test.YteolbbgnkbcfmaaSuG
import Derived.Test.YteolbbgnkbcfmaaSuF
import Derived.Test.YteolbbgnkbcfmaaStR
import Derived.Laws.CopyOwn
namespace Go.Proofs.Yteolbbgnkbcfmaa
open Go Go.RowKit
open Tp (T)
open Sg (Of Rt Den Dens Alk Mkd trav travs rootOf kidsOf)
theorem elem_in : Try.prog.underlying 27 = some (.slice (Try.prog.elem 27)) := by kernel_rfl
theorem size_in (w : World) : (sizeOf (Try.prog.elem 27)).run Try.prog w = .ok 1 w := by kernel_rfl
theorem int_pop (a : Option Addr) (n cap k : Nat) (hk : k ≤ n) (hn : n ≤ cap) (w' : World) :
    (Instr.slice 27 (.slice a n cap) none (some (.int .i64 (k : Int))) none).run Try.prog w' = .ok (.slice a k cap) w' := by
  rw [run_slice_h w' _ _ n cap elem_in .i64 (k : Int) (by omega) (by omega), size_in]
  cases a with
  | none => simp [Result.andThen, sliced]
  | some b => 
    obtain ⟨b, o, sp⟩ := b
    simp [Result.andThen, sliced, Addr.add]
theorem int_from (b o n cap k : Nat) (hk : k < n) (hn : n ≤ cap) (w' : World) :
    (Instr.slice 27 (.slice (some ⟨b, o, none⟩) n cap) (some (.int .i64 (k : Int))) none none).run Try.prog w' = .ok (.slice (some ⟨b, o + k, none⟩) (n - k) (cap - k)) w' := by
  rw [run_slice_l w' 27 (some ⟨b, o, none⟩) n cap elem_in .i64 (k : Int) (by omega) (by omega), size_in]
  simp [Result.andThen, sliced, add_flat]
  omega
theorem arr_all (b o : Nat) (w : World) : (Instr.sliceAt 86 (.pointer (some ⟨b, o, none⟩)) none none none).run Try.prog w = .ok (.slice (some ⟨b, o, none⟩) 2 2) w := by
  have hal : Try.prog.arrayLen 86 = 2 := by kernel_rfl
  rw [run_sliceAt_array_all w 86 ⟨b, o, none⟩ (by kernel_rfl), hal]
  have hsz : (sizeOf (Try.prog.elem 86)).run Try.prog w = .ok 1 w := by kernel_rfl
  rw [hsz]
  simp [Result.andThen, slicedAt, add_flat]
mutual
theorem post_ok : ∀ (t : T), Tp.right t = true → Tp.without 6 t = true → ∀ x ∈ post t, Tp.right x = true ∧ Tp.without 6 x = true
  | .mk k n l, hr, hw, x, hx => by
    rw [post] at hx
    rcases List.mem_append.1 hx with hx | hx
    · obtain ⟨h1, h2, _⟩ := Tp.right_node hr
      have hw2 : k ≠ 6 ∧ Tp.withouts 6 l = true := by simpa [Tp.without] using hw
      exact posts_ok l h2 hw2.2 x hx
    · rw [List.mem_singleton.1 hx]; exact ⟨hr, hw⟩
theorem posts_ok : ∀ (l : List T), Tp.rights l = true → Tp.withouts 6 l = true → ∀ x ∈ posts l, Tp.right x = true ∧ Tp.without 6 x = true
  | [], _, _, x, hx => by rw [posts] at hx; cases hx
  | t :: r, hr, hw, x, hx => by
    rw [posts] at hx
    obtain ⟨r1, r2⟩ := rights_split hr
    obtain ⟨w1, w2⟩ := withouts_split hw
    rcases List.mem_append.1 hx with hx | hx
    · exact post_ok t r1 w1 x hx
    · exact posts_ok r r2 w2 x hx
end
theorem post_len (t : T) : (post t).length = Tp.size t := by rw [← bw_post, List.length_reverse, bw_len]
theorem post_at {t : T} {D : List Ke} (h : D.map Ke.t = bw t) {k : Nat} (hk2 : k < (post t).length) (hi : D.length - 1 - k < D.length) : (post t)[k] = (D[D.length - 1 - k]).t := by
  have e : post t = (D.map Ke.t).reverse := by rw [h, bw_post]
  have : ∀ (l : List T) (he : l = (D.map Ke.t).reverse) (hl : k < l.length), l[k] = (D[D.length - 1 - k]).t := fun l he hl => by
    subst he
    rw [List.getElem_reverse]
    simp [List.length_map]
  exact this _ e hk2
/-- The letters of an entry. -/
def tlOf (e : Ke) : TL := ⟨e.t.kind, e.t.num, e.a, e.t.kids.length, e.cap⟩
theorem tl_at {W : World} {B b1 : Nat} {D : List Ke} {va : Option Addr} {vc : Nat} (hown : W.ownsRow B 26 3 (.slice va D.length vc) D.length (rowCells D)) (hb : W.cell? ⟨b1, 0, none⟩ = some (.slice va D.length vc)) : TLAt W b1 (D.map tlOf) va vc := by
  refine ⟨by rw [List.length_map]; exact hb, fun i hi => ?_⟩
  have hi' : i < D.length := by simpa using hi
  rcases hown.2 with ⟨h1, h2⟩ | ⟨g, cap, cur, h1, h2, h3, _⟩
  · omega
  · injection h1 with q1 q2 q3
    subst q1
    have hc := hown.cells (g := g) rfl
    have k : ∀ j, j < 3 → ∀ u, (keCells D[i])[j]? = some u → W.cell? ⟨g, i * 3 + j, none⟩ = some u := fun j hj u hu => by
      have := hc (i * 3 + j) u (by rw [rowCells_at D i hi' j hj]; exact hu)
      rwa [add_flat, Nat.zero_add] at this
    have e : (D.map tlOf)[i] = tlOf D[i] := by simp
    rw [e]
    exact ⟨g, 0, rfl, by rw [Nat.zero_add]; exact k 0 (by omega) _ rfl, by rw [Nat.zero_add]; exact k 1 (by omega) _ rfl, by rw [Nat.zero_add]; exact k 2 (by omega) _ rfl⟩
/-- A row of numbers lies in another block than the store's nodes. -/
theorem open_far {B B' s g cap m : Nat} {L C K : Int} {W : World} {H : List SNd} {ov : Value} {xs : List Value} (h : W.ownsRow B' 3 1 ov m xs) (hs : SV B s g cap L C K W H) : ov.ownBlock ≠ some g := fun e => by
  obtain ⟨G, _, hown⟩ := hs.row
  rcases h.2 with ⟨h1, _⟩ | ⟨z, cap', cur, h1, _, h3, _⟩
  · rw [h1] at e; cases e
  · rw [h1] at e
    injection e with e
    dsimp only at e
    subst e
    rcases hown.2 with ⟨q1, _⟩ | ⟨z', cap2, cur2, q1, _, q3, _⟩
    · cases q1
    · injection q1 with q1
      injection q1 with q1
      injection q1 with q1
      subst q1
      rw [h3] at q3
      injection q3 with q3
      injection q3 with _ q3
      exact absurd q3 (by decide)
theorem own_takeN {w : World} {base n k : Nat} {a : Option Addr} {cap : Nat} {xs : List Value} {e : TypeId} (h : w.ownsRow base e 1 (.slice a n cap) n xs) (hk : k ≤ n) : w.ownsRow base e 1 (.slice a k cap) k (xs.take k) := by
  obtain ⟨h1, h2 | ⟨g', cap', cur, h3, h4, h5, h6, h7, h8, h9⟩⟩ := h
  · obtain ⟨h2, h2'⟩ := h2
    injection h2 with q1 q2 q3
    subst q1 q2 q3
    obtain rfl : k = 0 := by omega
    exact ⟨by simp, .inl ⟨rfl, rfl⟩⟩
  · injection h3 with e1 e2 e3
    subst e1 e3
    refine ⟨by rw [List.length_take, h1]; omega, .inr ⟨g', cap, cur, rfl, h4, h5, by omega, h7, h8, ?_⟩⟩
    rw [← h9, List.take_take, Nat.mul_one, Nat.mul_one, Nat.min_eq_left hk]
/-- Between two rounds of Put's loop: k nodes are done. -/
structure PtJ (B s g : Nat) (L C K : Int) (H : List SNd) (t : T) (w : World) (b8 : Nat) (Ls : List TL) (va : Option Addr) (vc : Nat) (D : List Ke) (k : Nat) (S : List SNd × List Nat) (g' cap' : Nat) (oa : Option Addr) (oc : Nat) (W : World) : Prop where
  at_ : ((post t).take k).foldlM pst (H, []) = some S
  sv : SV B s g' cap' L (C + ((S.1.length : Int) - (H.length : Int))) K W S.1
  gg : g' = g ∨ b8 + 3 < g'
  box : W.heap[b8]? = some (.cells #[.slice oa S.2.length oc] 27)
  own : W.ownsRow (b8 + 4) 3 1 (.slice oa S.2.length oc) S.2.length (natRow S.2)
  ptr : W.heap[w.heap.size]? = some (.cells #[.pointer (some ⟨s, 0, none⟩)] 30)
  src : W.heap[b8 + 1]? = some (.cells #[.slice va D.length vc] 24)
  row : W.ownsRow w.heap.size 26 3 (.slice va D.length vc) D.length (rowCells D)
  low : ∀ z, (Value.slice va D.length vc).ownBlock = some z → z < b8
  kp : Kp w.heap.size (fun k => k = s ∨ k = g) w W
  len : S.1.length ≤ H.length + k ∧ S.2.length ≤ k ∧ H.length ≤ S.1.length
theorem leaf_of {u : T} (hr : Tp.right u = true) (hw : Tp.without 6 u = true) (h : u.kids = []) : 1 ≤ u.kind ∧ u.kind ≤ 5 := by
  cases u with
  | mk k n l =>
    have hl : l = [] := h
    subst hl
    obtain ⟨h1, _⟩ := Tp.right_node hr
    exact leaf_kind h1 (by simp [Tp.without] at hw; exact hw.1)
theorem node_of {u : T} (hr : Tp.right u = true) : u.kids.length = ar u.kind := by
  cases u with
  | mk k n l =>
    obtain ⟨h1, _⟩ := Tp.right_node hr
    exact (ar_arity h1).symm
theorem own_cap {w : World} {B n cap : Nat} {a : Option Addr} {e : TypeId} {sz : Nat} {xs : List Value} (h : w.ownsRow B e sz (.slice a n cap) n xs) : n ≤ cap := by
  rcases h.2 with ⟨h1, h2⟩ | ⟨g, c, cur, h1, _, _, h4, _⟩
  · omega
  · injection h1 with _ _ q; rw [q]; exact h4
theorem splice_kids (xk : Int) : ∀ ks : List Nat, 0 < ks.length → ks.length ≤ 2 → splice [Value.int .i64 xk, .int .i64 0, .int .i64 0, .int .i64 0, .int .i64 0, .int .i64 0] 2 (natRow ks) = [Value.int .i64 xk, .int .i64 0, .int .i64 ((ks.getD 0 0 : Nat) : Int), .int .i64 ((ks.getD 1 0 : Nat) : Int), .int .i64 0, .int .i64 0]
  | [], h, _ => by simp at h
  | [x], _, _ => by simp [splice, natRow]
  | [x, y], _, _ => by simp [splice, natRow]
  | _ :: _ :: _ :: _, _, h => by simp at h
theorem natRow_one (l : List Nat) : ∀ u ∈ natRow l, u.oneCell' = true := fun u hu => by
  unfold natRow at hu
  obtain ⟨n, _, rfl⟩ := List.mem_map.1 hu
  rfl
end Go.Proofs.Yteolbbgnkbcfmaa

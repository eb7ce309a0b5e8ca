/- The law TypBad. The law TypVars. The law TypParts: its beginning. -/
import Derived.Test.YteolbbgnkbcfmaaTfA
import Derived.Test.YteolbbgnkbcfmaaTrA
import Derived.Deep.Quiet
import Derived.Deep.RegionLaw
import Derived.Deep.QuietTactic
namespace Go.Proofs.Yteolbbgnkbcfmaa
open Go Go.RowKit
open Tp (T)

/-- A type in a box of the call's own: what lies there as long as nothing below moves. -/
theorem box_facts {w : World} {t : T} {a : Option Addr} {cap : Nat} (hty : TyAt (LT w.heap.size) w t a cap) {k n : Int} {m : Nat} :
    (∀ w', Below (w.heap.size + 1) (w.alloc (.cells #[.int .i64 k, .int .i64 n, .slice a m cap] 26)) w' → w'.cell? ⟨w.heap.size, 0, none⟩ = some (.int .i64 k) ∧ w'.cell? ⟨w.heap.size, 1, none⟩ = some (.int .i64 n) ∧ w'.cell? ⟨w.heap.size, 2, none⟩ = some (.slice a m cap)) ∧
    (∀ w', Below (w.heap.size + 1) (w.alloc (.cells #[.int .i64 k, .int .i64 n, .slice a m cap] 26)) w' → TyAt (LT w'.heap.size) w' t a cap) ∧
    (∀ w', Below (w.heap.size + 1) (w.alloc (.cells #[.int .i64 k, .int .i64 n, .slice a m cap] 26)) w' → w.heap.size + 1 ≤ w'.heap.size) ∧
    (∀ w', Below (w.heap.size + 1) (w.alloc (.cells #[.int .i64 k, .int .i64 n, .slice a m cap] 26)) w' → Below w.heap.size w w') := by
  refine ⟨fun w' hb => ?_, fun w' hb => ?_, fun w' hb => ?_, fun w' hb => ?_⟩
  · have h := World.alloc_heap_new w (.cells #[.int .i64 k, .int .i64 n, .slice a m cap] 26)
    exact ⟨cell_box h (hb.block _ (by omega)) rfl, cell_box h (hb.block _ (by omega)) rfl, cell_box h (hb.block _ (by omega)) rfl⟩
  · exact hty.below (((Below.refl w.heap.size w).alloc (Nat.le_refl _) _).trans (hb.mono (by omega))) (fun _ h => h) (fun b h => (Nat.lt_of_lt_of_le h (by have := hb.size; rw [World.size_alloc] at this; omega) : b < w'.heap.size))
  · have := hb.size; rw [World.size_alloc] at this; exact this
  · exact ((Below.refl w.heap.size w).alloc (Nat.le_refl _) _).trans (hb.mono (by omega))
/-- A row of one. -/
theorem row_one {w1 : World} {t : T} {a : Option Addr} {cap : Nat} (hty : TyAt (LT w1.heap.size) w1 t a cap) {k n : Int} {m : Nat} (hk : t.kind = k) (hn : t.num = n) (hm : t.kids.length = m) :
    KidsAt (LT (w1.alloc (.cells #[.int .i64 k, .int .i64 n, .slice a m cap] 26)).heap.size) (w1.alloc (.cells #[.int .i64 k, .int .i64 n, .slice a m cap] 26)) [t] (some ⟨w1.heap.size, 0, none⟩) := by
  subst hk hn hm
  refine KidsAt.of_nodes (G := LT _) (by unfold LT; simp) [t] 0 (fun i hi => ?_)
  obtain rfl : i = 0 := by simpa using hi
  have h := World.alloc_heap_new w1 (.cells #[.int .i64 t.kind, .int .i64 t.num, .slice a t.kids.length cap] 26)
  exact NodeAt.mk' (hty.below ((Below.refl w1.heap.size w1).alloc (Nat.le_refl _) _) (fun _ h => h) (fun b h => (by unfold LT at *; rw [World.size_alloc]; omega))) (cell_box h rfl rfl) (cell_box h rfl rfl) (cell_box h rfl rfl)
theorem rem_small (n : Int) : ∃ r, (IntKind.u64.wrap n).tmod 1000 = r ∧ 0 ≤ r ∧ r < 1000 ∧ wrap64 r = r ∧ wrap64 (10 + r) = 10 + r ∧ wrap64 (1 + r) = 1 + r := by
  refine ⟨_, rfl, ?_⟩
  have h : 0 ≤ IntKind.u64.wrap n := by
    simp [IntKind.wrap, IntKind.bits, IntKind.signed]
    omega
  have h1 : 0 ≤ (IntKind.u64.wrap n).tmod 1000 ∧ (IntKind.u64.wrap n).tmod 1000 < 1000 := by
    rw [Int.tmod_eq_emod_of_nonneg h]; omega
  generalize (IntKind.u64.wrap n).tmod 1000 = r at h1
  refine ⟨h1.1, h1.2, ?_, ?_, ?_⟩ <;> (unfold wrap64; omega)
theorem set0 {w : World} {b : Nat} {x y v v' : Value} {s : TypeId} (h : w.heap[b]? = some (.cells #[x, y, v] s)) : (w.setCell ⟨b, 0, none⟩ v').heap[b]? = some (.cells #[v', y, v] s) := by
  obtain ⟨hlt, hk⟩ := Array.getElem?_eq_some_iff.1 h
  show (w.heap.modify b _)[b]? = _
  rw [Array.getElem?_eq_getElem (by rw [Array.size_modify]; exact hlt), Array.getElem_modify_self, hk]
  rfl
theorem set1 {w : World} {b : Nat} {x y v v' : Value} {s : TypeId} (h : w.heap[b]? = some (.cells #[x, y, v] s)) : (w.setCell ⟨b, 1, none⟩ v').heap[b]? = some (.cells #[x, v', v] s) := by
  obtain ⟨hlt, hk⟩ := Array.getElem?_eq_some_iff.1 h
  show (w.heap.modify b _)[b]? = _
  rw [Array.getElem?_eq_getElem (by rw [Array.size_modify]; exact hlt), Array.getElem_modify_self, hk]
  rfl
/-- The tail of a row. -/
theorem list_tail1 (a : Option Addr) (n cap : Nat) (hn : 1 ≤ n) (hc : n ≤ cap) : ∃ a', (∀ w', (Instr.slice 24 (.slice a n cap) (some (.int .i64 1)) none none).run Try.prog w' = .ok (.slice a' (n - 1) (cap - 1)) w') ∧ (1 < n → ∀ b o, a = some ⟨b, o, none⟩ → a' = some ⟨b, o + 3, none⟩) := by
  refine ⟨if cap = 1 then a else (a.map (·.add 3)), fun w' => ?_, fun h1 b o e => ?_⟩
  · have h := run_slice_l w' 24 a n cap elem_ty .i64 1 (by omega) (by omega)
    rw [h, size_ty]
    simp [Result.andThen, sliced]
  · subst e
    rw [if_neg (by omega)]
    simp [add_flat]
/-- A row of kids of its own as a slice of types. -/
theorem row_slAt {G : Nat → Prop} {B n : Nat} {w : World} {a : Option Addr} {cap : Nat} {ks : List Ke} (h : w.ownsRow B 26 3 (.slice a n cap) ks.length (rowCells ks)) (hG : ∀ g, (Value.slice a n cap).ownBlock = some g → G g) (he : ∀ e ∈ ks, TyAt G w e.t e.a e.cap) :
    SlAt G w (ks.map Ke.t) a cap := by
  obtain ⟨a', cap', e⟩ := own_shapeT h
  injection e with e1 e2 e3
  rcases h.2 with ⟨h1, h2⟩ | ⟨g, cp, cur, h1, h2, h3, h4, h5, _⟩
  · have hk : ks = [] := List.eq_nil_of_length_eq_zero h2
    injection h1 with q1 q2 q3
    subst q1 q3
    rw [hk]; exact ⟨by simp, by unfold maxLen; omega, by simp [KidsAt]⟩
  · injection h1 with q1 q2 q3
    subst q1
    subst q3
    refine ⟨by rw [List.length_map]; exact h4, h5, KidsAt.of_nodes (hG g rfl) _ 0 (fun i hi => ?_)⟩
    have hi' : i < ks.length := by simpa using hi
    have hc := h.cells (g := g) rfl
    have k : ∀ j, j < 3 → ∀ u, (keCells ks[i])[j]? = some u → w.cell? ⟨g, 0 + i * 3 + j, none⟩ = some u := fun j hj u hu => by
      have := hc (i * 3 + j) u (by rw [rowCells_at ks i hi' j hj]; exact hu)
      rw [add_flat] at this
      rw [show 0 + i * 3 + j = 0 + (i * 3 + j) from by omega]; exact this
    have ht := he ks[i] (List.getElem_mem hi')
    have e0 : (ks.map Ke.t)[i] = ks[i].t := by simp
    rw [e0]
    exact NodeAt.mk' ht (k 0 (by omega) _ rfl) (k 1 (by omega) _ rfl) (k 2 (by omega) _ rfl)
theorem bad_kind (r x : Int) (l : List T) (h : 0 ≤ r) : Tp.right (.mk (10 + r) x l) = false := by
  have : Tp.arity (10 + r) ≠ l.length := by
    unfold Tp.arity
    rw [if_neg (by omega), if_neg (by omega), if_neg (by omega)]
    omega
  simp [Tp.right, Tp.nodeRight, this]
theorem sz_same {t : T} (h : Tp.size t ≤ 600) (k n : Int) : Tp.size (.mk k n t.kids) ≤ 10000 := by
  have h2 := size_kids t
  simp only [Tp.size]
  omega
theorem i64_ten {r : Int} (h1 : 0 ≤ r) (h2 : r < 1000) : I64 (10 + r) := by unfold I64; omega
theorem i64_one {r : Int} (h1 : 0 ≤ r) (h2 : r < 1000) : I64 (1 + r) := by unfold I64; omega
theorem lt_of {G : Nat} {w : World} (h : G ≤ w.heap.size) : ∀ b, b < G → LT w.heap.size b := fun _ hb => Nat.lt_of_lt_of_le hb h
theorem bad_num {k r : Int} (l : List T) (hk : k ≠ 6) (h : 0 ≤ r) : Tp.right (.mk k (1 + r) l) = false := by
  have h1 : 1 + r ≠ 0 := by omega
  simp [Tp.right, Tp.nodeRight, hk, h1]
theorem var_right {t : T} {x : Int} (h : Tp.right t = true) (hk : t.kind = 6) (h0 : 0 ≤ x) (h1 : x ≤ 1048576) : Tp.right (.mk 6 x t.kids) = true := by
  cases t with
  | mk k n l =>
    simp only [Tp.T.kind] at hk
    subst hk
    simp only [Tp.right, Tp.nodeRight, Tp.T.kids, Bool.and_eq_true, decide_eq_true_eq] at h ⊢
    simp [h.1.1.1.1, h0, h1, h.2]
theorem var_wrong {x : Int} (l : List T) (h : x < 0 ∨ 1048576 < x) : Tp.right (.mk 6 x l) = false := by
  have h1 : ¬ (0 ≤ x ∧ x ≤ 1048576) := by omega
  by_cases h0 : 0 ≤ x
  · have h2 : ¬ x ≤ 1048576 := fun h => h1 ⟨h0, h⟩
    simp [Tp.right, Tp.nodeRight, h0, h2]
  · simp [Tp.right, Tp.nodeRight, h0]
theorem le_of_own {w : World} {B n n' cap sz : Nat} {e : TypeId} {a : Option Addr} {xs : List Value} (h : w.ownsRow B e sz (.slice a n cap) n' xs) : n ≤ cap := by
  rcases h.2 with ⟨h1, h2⟩ | ⟨g, cp, cur, h1, h2, h3, h4, h5, _⟩
  · injection h1 with q1 q2 q3; omega
  · injection h1 with q1 q2 q3; omega
theorem slAt_tail {G : Nat → Prop} {w : World} {l : List T} {a a' : Option Addr} {m c : Nat} (hm : l.length = m) (h0 : m ≠ 0) (hab : 1 < m → ∀ b o, a = some ⟨b, o, none⟩ → a' = some ⟨b, o + 3, none⟩) (h : SlAt G w l a c) : SlAt G w l.tail a' (c - 1) := by
  obtain ⟨h1, h2, h3⟩ := h
  refine ⟨by rw [List.length_tail]; omega, by omega, ?_⟩
  match l, hm, h3 with
  | [], hm, _ => exact absurd hm.symm h0
  | [x], _, _ => simp [KidsAt]
  | x :: y :: r, hm, h3 =>
    simp only [KidsAt] at h3
    obtain ⟨b, o, e, hb, hn, b2, o2, e2, hb2, hn2, h4⟩ := h3
    injection e2 with e2
    injection e2 with e3 e4
    rw [hab (by rw [← hm]; simp) b o e]
    simp only [List.tail_cons, KidsAt]
    refine ⟨b, o + 3, rfl, hb, ?_, ?_⟩
    · rw [e3, e4]; exact hn2
    · rw [e3, e4]; exact h4
theorem len_tail {l : List T} {m : Nat} (hm : l.length = m) (h0 : m ≠ 0) : l.tail.length ≠ m := by rw [List.length_tail]; omega
theorem len_tail2 {l : List T} {m : Nat} (hm : l.length = m) : l.tail.length = m - 1 := by rw [List.length_tail, hm]
theorem sizes_tail (l : List T) : Tp.sizes l.tail ≤ Tp.sizes l := by
  cases l with
  | nil => exact Nat.le_refl _
  | cons x r => simp only [List.tail_cons, Tp.sizes]; omega
theorem sz_tail {t : T} (h : Tp.size t ≤ 600) (k n : Int) : Tp.size (.mk k n t.kids.tail) ≤ 10000 := by
  have h2 := size_kids t
  have h3 := sizes_tail t.kids
  simp only [Tp.size]
  omega
theorem bad_len {t : T} {k : Int} (h : Tp.right t = true) (hk : t.kind = k) {x : Int} (l : List T) (hl : l.length ≠ t.kids.length) : Tp.right (.mk k x l) = false := by
  cases t with
  | mk k' n l' =>
    simp only [Tp.T.kind] at hk
    subst hk
    simp only [Tp.right, Tp.nodeRight, Tp.T.kids, Bool.and_eq_true, decide_eq_true_eq] at h hl
    have e : Tp.arity k' ≠ l.length := by rw [h.1.1.1.1]; omega
    simp [Tp.right, Tp.nodeRight, e]
theorem push_one {B : Nat} {w3 w4 wa : World} {o bx : Obj} {a1 : Option Addr} {m0 c1 g2 cap2 : Nat} {ks : List Ke} {t : T} (hrow : RowK B w3 (.slice a1 m0 c1) ks) (hks : ks.map Ke.t = t.kids) (hm : t.kids.length = m0) (h34 : Below w3.heap.size w3 w4) (hz : w4.heap.size = w3.heap.size + 1)
    (hown : wa.ownsRow B 26 3 (.slice (some ⟨g2, 0, none⟩) (m0 + 1) cap2) (m0 + 1) (rowCells ks ++ [.int .i64 1, .int .i64 0, .slice none 0 0])) (hg : (w4.alloc o).grownBy wa (Value.slice a1 m0 c1).ownBlock) (hl : (Value.slice a1 m0 c1).ownBlock = some g2 ∨ g2 = (w4.alloc o).heap.size)
    (hu : w4.heap[w3.heap.size]? = some bx) (v : Value) :
    wa.heap[w3.heap.size]? = some bx ∧ SlAt (LT (wa.setCell ⟨w3.heap.size, 2, none⟩ v).heap.size) (wa.setCell ⟨w3.heap.size, 2, none⟩ v) (t.kids ++ [.mk 1 0 []]) (some ⟨g2, 0, none⟩) cap2 := by
  have vlt : ∀ g, (Value.slice a1 m0 c1).ownBlock = some g → B ≤ g ∧ g < w3.heap.size := hrow.own.lt
  have hs : w3.heap.size + 2 ≤ wa.heap.size := by have := hg.size; rw [World.size_alloc] at this; omega
  have kp : ∀ k, k < w3.heap.size + 1 → (Value.slice a1 m0 c1).ownBlock ≠ some k → wa.heap[k]? = w4.heap[k]? := fun k hk hn => (hg.block k (by rw [World.size_alloc]; omega) (fun e => hn e.symm)).trans (Below.heap_alloc _ _ _ (by omega))
  have hg2 : g2 ≠ w3.heap.size := by
    rcases hl with h | h
    · have := (vlt g2 h).2; omega
    · rw [World.size_alloc] at h; omega
  have hl2 : ks.length = m0 := by rw [← hm, ← hks, List.length_map]
  refine ⟨(kp _ (by omega) (fun e => by have := (vlt _ e).2; omega)).trans hu, ?_⟩
  have key := row_slAt (G := LT (wa.setCell ⟨w3.heap.size, 2, none⟩ v).heap.size) (w := wa.setCell ⟨w3.heap.size, 2, none⟩ v) (a := some ⟨g2, 0, none⟩) (n := m0 + 1) (cap := cap2) (ks := ks ++ [⟨.mk 1 0 [], none, 0⟩]) (B := B) (by
      rw [List.length_append, hl2, rowCells_snoc]
      exact own_same hown fun g e => by
        injection e with e
        subst e
        exact Below.heap_setCell _ _ _ _ hg2) (fun g e => by
      have := (hown.lt g e).2
      show g < _
      rw [size_setCell]; exact this) (fun e he => by
      rcases List.mem_append.1 he with he | he
      · refine ty_same (fun k hk => ?_) (fun k hk => ?_) (hrow.each e he)
        · have h2 := hk.2.1
          exact (Below.heap_setCell _ _ _ k (by dsimp only; omega)).trans ((kp k (by omega) hk.2.2).trans (h34.block k h2))
        · have h2 := hk.2.1
          show k < _
          rw [size_setCell]; omega
      · obtain rfl := List.mem_singleton.1 he
        exact ⟨by show I64 1; unfold I64; omega, by show I64 0; unfold I64; omega, by simp [Tp.T.kids], Nat.zero_le _, by simp [Tp.T.kids, KidsAt]⟩)
  rw [List.map_append, hks] at key
  exact key
theorem below_app {B B' : Nat} {W w3 w4 wa : World} {o : Obj} {a1 : Option Addr} {m0 c1 : Nat} {ks : List Ke} (hrow : RowK B' w3 (.slice a1 m0 c1) ks) (hB : B ≤ B') (hb : Below B W w4) (hle : B ≤ w4.heap.size) (hg : (w4.alloc o).grownBy wa (Value.slice a1 m0 c1).ownBlock) : Below B W wa :=
  (hb.alloc hle _).grown hg (by rw [World.size_alloc]; omega) (fun y hy => Nat.le_trans hB (hrow.own.lt y hy).1)
theorem own_later {B m0 c1 : Nat} {w3 w4 : World} {a1 : Option Addr} {ks : List Ke} {o : Obj} {t : T} (hrow : RowK B w3 (.slice a1 m0 c1) ks) (hks : ks.map Ke.t = t.kids) (hm : t.kids.length = m0) (h34 : Below w3.heap.size w3 w4) : (w4.alloc o).ownsRow B 26 3 (.slice a1 m0 c1) m0 (rowCells ks) :=
  (own_len (own_same hrow.own fun g hg => h34.block g (hrow.own.lt g hg).2) (by rw [← hm, ← hks, List.length_map])).alloc _
theorem m_le {t : T} {m : Nat} (h : Tp.size t ≤ 600) (hm : t.kids.length = m) : m ≤ 10000 := by
  have := Tp.length_le_sizes t.kids; have := size_kids t; omega
theorem sz_app {t : T} (h : Tp.size t ≤ 600) (k n : Int) : Tp.size (.mk k n (t.kids ++ [.mk 1 0 []])) ≤ 10000 := by
  have h2 := size_kids t
  simp only [Tp.size, Tp.sizes_append, Tp.sizes]
  omega
theorem len_app {l : List T} {m : Nat} (hm : l.length = m) : (l ++ [T.mk 1 0 []]).length = m + 1 := by rw [List.length_append, hm]; rfl
theorem le_two {a b c : Nat} (h1 : a ≤ b) (h2 : c = b + 1) : a ≤ c + 1 := by omega
theorem le_one {a b c : Nat} (h1 : a ≤ b) (h2 : c = b + 1) : a ≤ c := by omega
theorem app_ne {l : List T} : (l ++ [T.mk 1 0 []]).length ≠ l.length := by rw [List.length_append, List.length_singleton]; omega
theorem base_le {a b : Nat} {w4 : World} {o : Obj} (h1 : a ≤ b) (h2 : w4.heap.size = b + 1) : a ≤ (w4.alloc o).heap.size := by
  have h3 : (w4.alloc o).heap.size = w4.heap.size + 1 := World.size_alloc _ _
  omega
theorem not_frozen {w : World} {b i : Nat} {A : Array Value} {s : TypeId} (h : w.heap[b]? = some (.cells A s)) : w.frozen? ⟨b, i, none⟩ = false := by simp [World.frozen?, h]
theorem sizes_one (t : T) : Tp.sizes [t] = Tp.size t := by simp [Tp.sizes]

end Go.Proofs.Yteolbbgnkbcfmaa
namespace Go.Proofs.Yteolbbgnkbcfmaa
open Go Go.RowKit
open Tp (T)

theorem elem_int : Try.prog.underlying 27 = some (.slice (Try.prog.elem 27)) := by kernel_rfl
theorem size_int (w : World) : (sizeOf (Try.prog.elem 27)).run Try.prog w = .ok 1 w := by kernel_rfl
theorem int_take (a : Option Addr) (n cap k : Nat) (hc : k ≤ cap) (w' : World) : (Instr.slice 27 (.slice a n cap) none (some (.int .i64 k)) none).run Try.prog w' = .ok (.slice a k cap) w' := by
  have h := run_slice_h w' 27 a n cap elem_int .i64 k (by omega) (by omega)
  rw [h, size_int]
  cases a <;> simp [Result.andThen, sliced, Addr.add]
theorem wp_region_quiet_c {P : Program} {C : World → Prop} {id : Nat} {Q : Exit → Act → World → Prop} {a : Act} {w : World} {l : List Oper} (hm : P.follows .mixedOrders = true) (hB : Region.lexB .any l.toArray = true) (hC : C { w with drawn := w.drawn + 1 })
    (h : wpQuiet P l.toArray C (fun a' => ∀ w', C w' → Q .normal a' w') l a) : (Code.region id l.toArray true).wp P Q a w :=
  wp_region_quiet (C := C) hm hB hC (by simpa using h)
theorem quiet_of {P : Program} {f : FuncId} {args : Array Value} {w W : World} {v : Value} {C : World → Prop} (hC : ∀ w', C w' ↔ Below W.heap.size W w') (hb : C w) (h : Calls P f args w (fun e w' => e = .returned v ∧ Below w.heap.size w w')) :
    Calls P f args w (fun e w' => e = .returned v ∧ C w') :=
  h.mono fun _ w' ⟨h1, h2⟩ => ⟨h1, (hC w').2 (((hC w).1 hb).trans (h2.mono ((hC w).1 hb).size))⟩
theorem row_drewN {w : World} {a : Option Addr} {L : List Int} (h : IntRow w a L) (n : Nat) : IntRow (w.drewN n) a L := h.below (below_drewM (Below.refl w.heap.size w) n) (Nat.le_refl _)
theorem take_len {L : List Int} {l0 k : Nat} (hl : L.length = l0) (h : k < l0) : (L.take k).length = k := by rw [List.length_take]; omega
theorem wrap_next {n : Nat} (h : n ≤ 600) : wrap64 ((n : Int) + 1) = (n : Int) + 1 := by unfold wrap64; omega
theorem wrap_next2 {n : Nat} (h : n ≤ 600) : IntKind.i64.wrap ((n : Int) + 1) = (n : Int) + 1 := by
  simp [IntKind.wrap, IntKind.bits, IntKind.signed]
  omega
theorem rem_i64 {r : Int} (h1 : 0 ≤ r) (h2 : r < 1000) : I64 r := by unfold I64; omega
theorem sz_le {t : T} (h : Tp.size t ≤ 600) : Tp.size t ≤ 10000 := by omega
/-- Two boxes: the class of the worlds in which they lie as they lay. -/
theorem cellsOf3 {w w' : World} {b : Nat} {x y v : Value} {s : TypeId} (h : w.heap[b]? = some (.cells #[x, y, v] s)) (hb : Below w.heap.size w w') : w'.cell? ⟨b, 0, none⟩ = some x ∧ w'.cell? ⟨b, 1, none⟩ = some y ∧ w'.cell? ⟨b, 2, none⟩ = some v := by
  have hlt := (Array.getElem?_eq_some_iff.1 h).1
  exact ⟨cell_box h (hb.block _ hlt) rfl, cell_box h (hb.block _ hlt) rfl, cell_box h (hb.block _ hlt) rfl⟩

end Go.Proofs.Yteolbbgnkbcfmaa
namespace Go.Proofs.Yteolbbgnkbcfmaa
open Go Go.RowKit
open Tp (T)

/-- Two types in boxes of the call's own. -/
theorem box_two {w : World} {t u : T} {a b : Option Addr} {cap cap' : Nat} (ht : TyAt (LT w.heap.size) w t a cap) (hu : TyAt (LT w.heap.size) w u b cap') {k n k' n' : Int} {m m' : Nat} {W : World}
    (hW : (w.alloc (.cells #[.int .i64 k, .int .i64 n, .slice a m cap] 26)).alloc (.cells #[.int .i64 k', .int .i64 n', .slice b m' cap'] 26) = W) :
    (∀ w', Below (w.heap.size + 2) W w' → w'.cell? ⟨w.heap.size, 0, none⟩ = some (.int .i64 k) ∧ w'.cell? ⟨w.heap.size, 1, none⟩ = some (.int .i64 n) ∧ w'.cell? ⟨w.heap.size, 2, none⟩ = some (.slice a m cap) ∧
      w'.cell? ⟨w.heap.size + 1, 0, none⟩ = some (.int .i64 k') ∧ w'.cell? ⟨w.heap.size + 1, 1, none⟩ = some (.int .i64 n') ∧ w'.cell? ⟨w.heap.size + 1, 2, none⟩ = some (.slice b m' cap')) ∧
    (∀ w', Below (w.heap.size + 2) W w' → TyAt (LT w'.heap.size) w' t a cap) ∧ (∀ w', Below (w.heap.size + 2) W w' → TyAt (LT w'.heap.size) w' u b cap') ∧
    (∀ w', Below (w.heap.size + 2) W w' → w.heap.size + 2 ≤ w'.heap.size) ∧ (∀ w', Below (w.heap.size + 2) W w' → Below w.heap.size w w') := by
  subst hW
  have hbase : Below w.heap.size w ((w.alloc (.cells #[.int .i64 k, .int .i64 n, .slice a m cap] 26)).alloc (.cells #[.int .i64 k', .int .i64 n', .slice b m' cap'] 26)) := ((Below.refl _ _).alloc (Nat.le_refl _) _).alloc (by simp) _
  have hs : ∀ w', Below (w.heap.size + 2) ((w.alloc (.cells #[.int .i64 k, .int .i64 n, .slice a m cap] 26)).alloc (.cells #[.int .i64 k', .int .i64 n', .slice b m' cap'] 26)) w' → w.heap.size + 2 ≤ w'.heap.size := fun w' hb => by have := hb.size; rw [World.size_alloc, World.size_alloc] at this; omega
  refine ⟨fun w' hb => ?_, fun w' hb => ?_, fun w' hb => ?_, hs, fun w' hb => ?_⟩
  · have h1 := box1 w #[.int .i64 k, .int .i64 n, .slice a m cap] #[.int .i64 k', .int .i64 n', .slice b m' cap'] 26 26
    have h2 := box2 w #[.int .i64 k, .int .i64 n, .slice a m cap] #[.int .i64 k', .int .i64 n', .slice b m' cap'] 26 26
    have e1 := hb.block w.heap.size (by omega)
    have e2 := hb.block (w.heap.size + 1) (by omega)
    exact ⟨cell_box h1 e1 rfl, cell_box h1 e1 rfl, cell_box h1 e1 rfl, cell_box h2 e2 rfl, cell_box h2 e2 rfl, cell_box h2 e2 rfl⟩
  · exact ht.below (hbase.trans (hb.mono (by omega))) (fun _ h => h) (fun _ h => Nat.lt_of_lt_of_le h (Nat.le_trans (Nat.le_add_right _ 2) (hs w' hb)))
  · exact hu.below (hbase.trans (hb.mono (by omega))) (fun _ h => h) (fun _ h => Nat.lt_of_lt_of_le h (Nat.le_trans (Nat.le_add_right _ 2) (hs w' hb)))
  · exact hbase.trans (hb.mono (by omega))
/-- A row of two. -/
theorem row_two {w1 : World} {t u : T} {a b : Option Addr} {cap cap' : Nat} (ht : TyAt (LT w1.heap.size) w1 t a cap) (hu : TyAt (LT w1.heap.size) w1 u b cap') {k n k' n' : Int} {m m' : Nat} (hk : t.kind = k) (hn : t.num = n) (hm : t.kids.length = m) (hk' : u.kind = k') (hn' : u.num = n') (hm' : u.kids.length = m') :
    KidsAt (LT (w1.alloc (.cells #[.int .i64 k, .int .i64 n, .slice a m cap, .int .i64 k', .int .i64 n', .slice b m' cap'] 26)).heap.size) (w1.alloc (.cells #[.int .i64 k, .int .i64 n, .slice a m cap, .int .i64 k', .int .i64 n', .slice b m' cap'] 26)) [t, u] (some ⟨w1.heap.size, 0, none⟩) := by
  subst hk hn hm hk' hn' hm'
  refine KidsAt.of_nodes (G := LT _) (by unfold LT; simp) [t, u] 0 (fun i hi => ?_)
  have h := World.alloc_heap_new w1 (.cells #[.int .i64 t.kind, .int .i64 t.num, .slice a t.kids.length cap, .int .i64 u.kind, .int .i64 u.num, .slice b u.kids.length cap'] 26)
  have hi2 : i = 0 ∨ i = 1 := by simp at hi; omega
  rcases hi2 with rfl | rfl
  · exact NodeAt.mk' (ht.below ((Below.refl w1.heap.size w1).alloc (Nat.le_refl _) _) (fun _ h => h) (fun b h => (by unfold LT at *; rw [World.size_alloc]; omega))) (cell_box h rfl rfl) (cell_box h rfl rfl) (cell_box h rfl rfl)
  · exact NodeAt.mk' (hu.below ((Below.refl w1.heap.size w1).alloc (Nat.le_refl _) _) (fun _ h => h) (fun b h => (by unfold LT at *; rw [World.size_alloc]; omega))) (cell_box h rfl rfl) (cell_box h rfl rfl) (cell_box h rfl rfl)
theorem sizes_two (t u : T) : Tp.sizes [t, u] = Tp.size t + Tp.size u := by simp [Tp.sizes]
/-- The parts of a pair, a function, a list. -/
theorem two_right (k : Int) (hk : k = 7 ∨ k = 9) (t u : T) : Tp.right (.mk k 0 [t, u]) = (Tp.right t && Tp.right u) := by
  rcases hk with rfl | rfl <;> simp [Tp.right, Tp.rights, Tp.nodeRight, Tp.arity]
theorem list_right (t : T) : Tp.right (.mk 8 0 [t]) = Tp.right t := by simp [Tp.right, Tp.rights, Tp.nodeRight, Tp.arity]
theorem two_size (k n : Int) (t u : T) : Tp.size (.mk k n [t, u]) = Tp.size t + Tp.size u + 1 := by simp [Tp.size, Tp.sizes]
theorem one_size (k n : Int) (t : T) : Tp.size (.mk k n [t]) = Tp.size t + 1 := by simp [Tp.size, Tp.sizes]
theorem two_depth (k n : Int) (t u : T) : Tp.depth (.mk k n [t, u]) = max (Tp.depth t) (Tp.depth u) + 1 := by simp [Tp.depth, Tp.depths]
theorem one_depth (k n : Int) (t : T) : Tp.depth (.mk k n [t]) = Tp.depth t + 1 := by simp [Tp.depth, Tp.depths]
theorem two_without (q k n : Int) (hk : k ≠ q) (t u : T) : Tp.without q (.mk k n [t, u]) = (Tp.without q t && Tp.without q u) := by simp [Tp.without, Tp.withouts, hk]
theorem two_vars (t u : T) : Tp.vars (.mk 7 0 [t, u]) [] = Tp.vars u (Tp.vars t []) := by simp [Tp.vars, Tp.varss, Tp.addVar]
theorem two_unlike (t u : T) : Tp.same (.mk 7 0 [t, u]) (.mk 9 0 [t, u]) = false := by
  rw [Bool.eq_false_iff]
  intro h
  have := (Tp.same_iff _ _).1 h
  injection this with h1
  omega
/-- What is there stays, at its place; what comes is there. -/
theorem addVar_pre (k n : Int) (acc : List Int) : ∃ m, Tp.addVar k n acc = acc ++ m := by
  unfold Tp.addVar
  split
  · exact ⟨_, rfl⟩
  · exact ⟨[], by simp⟩
mutual
theorem vars_pre : ∀ (t : T) (acc : List Int), ∃ m, Tp.vars t acc = acc ++ m
  | .mk k n l, acc => by
    obtain ⟨m1, h1⟩ := addVar_pre k n acc
    obtain ⟨m2, h2⟩ := varss_pre l (Tp.addVar k n acc)
    exact ⟨m1 ++ m2, by simp only [Tp.vars]; rw [h2, h1, List.append_assoc]⟩
theorem varss_pre : ∀ (l : List T) (acc : List Int), ∃ m, Tp.varss l acc = acc ++ m
  | [], acc => ⟨[], by simp [Tp.varss]⟩
  | t :: r, acc => by
    obtain ⟨m1, h1⟩ := vars_pre t acc
    obtain ⟨m2, h2⟩ := varss_pre r (Tp.vars t acc)
    exact ⟨m1 ++ m2, by simp only [Tp.varss]; rw [h2, h1, List.append_assoc]⟩
end
/-- The same numbers come, whatever is there already. -/
structure Over (a b c : List Int) : Prop where
  sub : ∀ x ∈ b, x ∈ c
  len : c.length ≤ a.length + b.length
theorem Over.step {a b c : List Int} (h : Over a b c) (k n : Int) : Over a (Tp.addVar k n b) (Tp.addVar k n c) := by
  unfold Tp.addVar
  by_cases hk : k = 6
  · by_cases hb : n ∈ b
    · simpa [hk, hb, h.sub n hb] using h
    · by_cases hc : n ∈ c
      · simp only [hk, hb, hc, not_true, not_false_eq_true, and_true, and_false, if_true, if_false]
        refine ⟨fun x hx => ?_, by rw [List.length_append]; have := h.len; omega⟩
        rcases List.mem_append.1 hx with hx | hx
        · exact h.sub x hx
        · rw [List.mem_singleton.1 hx]; exact hc
      · simp only [hk, hb, hc, not_false_eq_true, and_true, if_true]
        refine ⟨fun x hx => ?_, by rw [List.length_append, List.length_append]; have := h.len; simp only [List.length_singleton]; omega⟩
        rcases List.mem_append.1 hx with hx | hx
        · exact List.mem_append_left _ (h.sub x hx)
        · exact List.mem_append_right _ hx
  · simpa [hk] using h
mutual
theorem vars_over : ∀ (t : T) (a b c : List Int), Over a b c → Over a (Tp.vars t b) (Tp.vars t c)
  | .mk k n l, a, b, c, h => by simp only [Tp.vars]; exact varss_over l a _ _ (h.step k n)
theorem varss_over : ∀ (l : List T) (a b c : List Int), Over a b c → Over a (Tp.varss l b) (Tp.varss l c)
  | [], a, b, c, h => by simpa [Tp.varss] using h
  | t :: r, a, b, c, h => by simp only [Tp.varss]; exact varss_over r a _ _ (vars_over t a b c h)
end
theorem pair_over (t u : T) : Over (Tp.vars t []) (Tp.vars u []) (Tp.vars u (Tp.vars t [])) :=
  vars_over u _ _ _ ⟨fun _ h => (by cases h), by simp⟩
/-- A type that the call has built: a row of kids, a box. -/
theorem built_ty {w1 wp : World} {kk : Int} {l : List T} {R : Array Value} {n : Nat} (hI : I64 kk) (hn : l.length = n) (hn2 : n ≤ 2)
    (hK : KidsAt (LT (w1.alloc (.cells R 26)).heap.size) (w1.alloc (.cells R 26)) l (some ⟨w1.heap.size, 0, none⟩)) (hp : (w1.alloc (.cells R 26)).alloc (.cells #[.int .i64 kk, .int .i64 0, .slice (some ⟨w1.heap.size, 0, none⟩) n n] 26) = wp) :
    wp.heap[w1.heap.size + 1]? = some (.cells #[.int .i64 kk, .int .i64 0, .slice (some ⟨w1.heap.size, 0, none⟩) n n] 26) ∧ TyAt (LT wp.heap.size) wp (.mk kk 0 l) (some ⟨w1.heap.size, 0, none⟩) n ∧ Below w1.heap.size w1 wp ∧ wp.heap.size = w1.heap.size + 2 := by
  subst hp
  refine ⟨box2 w1 R _ _ _, ⟨hI, by show I64 0; unfold I64; omega, by rw [show (T.mk kk 0 l).kids = l from rfl, hn]; exact Nat.le_refl _, by unfold maxLen; omega, ?_⟩, ((Below.refl _ _).alloc (Nat.le_refl _) _).alloc (by simp) _, by simp⟩
  exact hK.below ((Below.refl (w1.alloc (.cells R 26)).heap.size _).alloc (Nat.le_refl _) _) (fun _ h => h) (fun x h => (by unfold LT at *; rw [World.size_alloc]; omega))
end Go.Proofs.Yteolbbgnkbcfmaa

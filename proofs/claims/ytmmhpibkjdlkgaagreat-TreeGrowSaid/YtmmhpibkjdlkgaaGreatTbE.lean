/- tree.binds' iterator: the names that an expression binds in a kid. tree.Free, plainly: how many binders around bind a name while the visits go by; which names are free. A map that counts: how many binders around bind a name. A range over the names that an expression binds, whose body counts them. The names that are free, as a rising row; what tree.Free's visits keep. -/
import Derived.Test.YtmmhpibkjdlkgaaGreatTbA
import Derived.Test.YtmmhpibkjdlkgaaGreatTbD
import Derived.Test.YtmmhpibkjdlkgaaGreatTcI
import Derived.Test.YtmmhpibkjdlkgaaGreatTcK
import Derived.Test.YtmmhpibkjdlkgaaGreatTeG
import Derived.Test.YtmmhpibkjdlkgaaGreatTdP
import Derived.Test.YtmmhpibkjdlkgaaGreatItl
import Derived.Test.YtmmhpibkjdlkgaaGreatTeA
namespace Go.Proofs.YtmmhpibkjdlkgaaGreat
open Go Go.RowKit Go.Shelf
open Ex (E)

theorem bindsL_pat {e : E} {j : Nat} (h14 : e.kind = 14) (hj : j < e.pats.length) : bindsL e ((j : Int) + 1) = Tr.keyNames (Tr.pre e.pats[j] 1) := by
  unfold bindsL
  rw [if_neg (by omega), if_neg (by omega), if_pos (by omega)]
  have : ((j : Int) + 1 - 1).toNat = j := by omega
  rw [this, List.getElem?_eq_getElem hj]; rfl
theorem bindsL_fine {e : E} (hf : Ex.Fine e) (k : Int) : (bindsL e k).length ≤ 10000 ∧ ∀ s ∈ bindsL e k, s.length ≤ 300 := by
  have h1 := hf.nm
  have h2 := hf.ar
  unfold bindsL
  split
  · simp [h1, h2]
  · split
    · simp [h1]
    · split
      · cases hp : e.pats[(k - 1).toNat]? with
        | none => simp
        | some p =>
          have hm := hf.ps p (List.mem_of_getElem? hp)
          refine ⟨?_, fun s hs => ?_⟩
          · have h3 := keyNames_length (Tr.pre p 1)
            rw [Tr.pre_len] at h3
            exact Nat.le_trans h3 hm.1
          · obtain ⟨y, hy, hs⟩ := List.mem_flatMap.1 hs
            split at hs
            · obtain rfl := List.mem_singleton.1 hs
              exact (Tr.pre_short p 1 hm.2 y hy).1
            · cases hs
      · simp
theorem binds_seq (Fr : Nat → Prop) (Be Bk b o n : Nat) (k : Int) (e : E) (w : World) (c0 : w.cell? ⟨Be, 0, none⟩ = some (.pointer (some ⟨b, o, none⟩))) (c1 : w.cell? ⟨Bk, 0, none⟩ = some (.int .i64 k)) (hn : ENode (LT n) w e b o) (hb : b < n) (hnw : n ≤ w.heap.size)
    (hf : Ex.Fine e) (hFe : ¬ Fr Be) (hFn : ∀ k, Fr k → n ≤ k) :
    SeqAt Tryz.prog 101 #[.pointer (some ⟨Be, 0, none⟩), .pointer (some ⟨Bk, 0, none⟩)] (fun s : List UInt8 => #[.string ⟨s.toArray⟩]) (fun xs => xs = bindsL e k) (fun pre x => ∃ rest, pre ++ x :: rest = bindsL e k) (fun _ => False) [] (fun _ _ _ => True) Fr w := by
  by_cases h12 : e.kind = 12 ∧ k = 0
  · have hbl : bindsL e k = [e.nm, e.ar] := by unfold bindsL; rw [if_pos h12]
    rw [hbl]
    exact binds_two Fr Be Bk b o n k e w c0 c1 hn hb hnw h12 hFe (fun h => by have := hFn b h; omega)
  · by_cases h9 : (e.kind = 9 ∧ k = 0) ∨ ((e.kind = 11 ∨ e.kind = 12) ∧ k = 1)
    · have hbl : bindsL e k = [e.nm] := by unfold bindsL; rw [if_neg h12, if_pos h9]
      rw [hbl]
      exact binds_one Fr Be Bk b o n k e w c0 c1 hn hb hnw h9
    · by_cases h14 : e.kind = 14 ∧ 1 ≤ k ∧ k ≤ e.pats.length
      · obtain ⟨j, rfl⟩ : ∃ j : Nat, k = (j : Int) + 1 := ⟨(k - 1).toNat, by omega⟩
        have hj : j < e.pats.length := by omega
        rw [bindsL_pat h14.1 hj]
        exact binds_pat Fr Be Bk b o n j e w c0 c1 hn hb hnw h14.1 hj (hf.ps _ (List.getElem_mem hj)).1 hFn
      · have hbl : bindsL e k = [] := by
          unfold bindsL; rw [if_neg h12, if_neg h9]
          split
          · rw [List.getElem?_eq_none (by omega)]
          · rfl
        rw [hbl]
        exact binds_none Fr Be Bk b o n k e w c0 c1 hn hb hnw h14 h12 h9
end Go.Proofs.YtmmhpibkjdlkgaaGreat
namespace Go.Proofs.YtmmhpibkjdlkgaaGreat
open Go Go.RowKit Go.Shelf
open Ex (E)

abbrev Nm := List UInt8
/-- So many binders more for each name of a row. -/
def bump (z : Int) (L : List Nm) (c : Nm → Int) : Nm → Int := fun s => c s + z * (L.count s : Int)
theorem bump_nil (z : Int) (c : Nm → Int) : bump z [] c = c := by funext s; simp [bump]
theorem bump_snoc (z : Int) (L : List Nm) (x : Nm) (c : Nm → Int) : bump z (L ++ [x]) c = bump z [x] (bump z L c) := by
  funext s
  simp only [bump, List.count_append]
  rw [Int.natCast_add, Int.mul_add]; omega
/-- How often a row of binders binds. -/
def cntOf (B : List Nm) : Nm → Int := fun s => (B.count s : Int)
theorem bump_up (B L : List Nm) : bump 1 L (cntOf B) = cntOf (B ++ L) := by funext s; simp [bump, cntOf, List.count_append]
theorem bump_down (B L : List Nm) : bump (-1) L (cntOf (B ++ L)) = cntOf B := by funext s; simp only [bump, cntOf, List.count_append]; omega
/-- Behind one visit: the binders, and the names found free. -/
def fStep (st : (Nm → Int) × List Nm) (k : E × Nat × Nat) : (Nm → Int) × List Nm :=
  (bump 1 (bindsL k.1 (k.2.1 : Int)) (bump (-1) (bindsL k.1 ((k.2.1 : Int) - 1)) st.1),
    if k.1.kind = 1 ∧ bump 1 (bindsL k.1 (k.2.1 : Int)) (bump (-1) (bindsL k.1 ((k.2.1 : Int) - 1)) st.1) k.1.nm = 0 then st.2 ++ [k.1.nm] else st.2)
theorem bindsL_pre (e : E) : bindsL e (-1) = [] := by unfold bindsL; simp
theorem bindsL_behind {e : E} (h : Ex.nodeRight e = true) : bindsL e (e.kids.length : Int) = [] := by
  have har : Ex.arity e.kind e.pats.length = e.kids.length := by
    unfold Ex.nodeRight Ex.nodeR at h
    simp only [Bool.and_eq_true, decide_eq_true_eq] at h
    exact h.1.1.1.1.1.1.1.1
  rw [← har]
  have h12 : ¬ (e.kind = 12 ∧ Ex.arity e.kind e.pats.length = 0) := by rintro ⟨h1, h2⟩; rw [h1] at h2; simp [Ex.arity] at h2
  have h9 : ¬ ((e.kind = 9 ∧ Ex.arity e.kind e.pats.length = 0) ∨ ((e.kind = 11 ∨ e.kind = 12) ∧ Ex.arity e.kind e.pats.length = 1)) := by
    rintro (⟨h1, h2⟩ | ⟨h1 | h1, h2⟩) <;> · rw [h1] at h2; simp [Ex.arity] at h2
  unfold bindsL
  rw [if_neg h12, if_neg h9]
  split
  · rename_i h14
    rw [h14.1, show Ex.arity 14 e.pats.length = (e.pats.length : Int) + 1 from by simp [Ex.arity]]
    have : ((e.pats.length : Int) + 1 - 1).toNat = e.pats.length := by omega
    rw [this, List.getElem?_eq_none (Nat.le_refl _)]
  · rfl
theorem name_leaf {e : E} (h : Ex.nodeRight e = true) (h1 : e.kind = 1) : e.kids = [] := by
  have har : Ex.arity e.kind e.pats.length = e.kids.length := by
    unfold Ex.nodeRight Ex.nodeR at h
    simp only [Bool.and_eq_true, decide_eq_true_eq] at h
    exact h.1.1.1.1.1.1.1.1
  rw [h1] at har
  simp [Ex.arity] at har
  exact List.length_eq_zero_iff.1 (by omega)
namespace Ex
mutual
/-- The names that are free, as often as they stand there; B: what is bound around. -/
def fr : E → List Nm → List Nm
  | .mk k f t nm ar n s op A C ps l, B => (if k = 1 ∧ cntOf B nm = 0 then [nm] else []) ++ frK (.mk k f t nm ar n s op A C ps l) l 0 B
def frK : E → List E → Nat → List Nm → List Nm
  | _, [], _, _ => []
  | t, x :: r, i, B => fr x (B ++ bindsL t (i : Int)) ++ frK t r (i + 1) B
end
mutual
theorem vis_fr : ∀ (e : E) (d : Nat) (B F : List Nm), right e = true → (vis e d).foldl fStep (cntOf B, F) = (cntOf B, F ++ fr e B)
  | .mk k f t nm ar n s op A C ps l, d, B, F, h => by
    have hn : nodeRight (.mk k f t nm ar n s op A C ps l) = true := by simp only [right, Bool.and_eq_true] at h; exact h.1
    have hl : rights l = true := by simp only [right, Bool.and_eq_true] at h; exact h.2
    have hk := visK_fr (.mk k f t nm ar n s op A C ps l) l 0 d B F hn hl (by simp [E.kids])
    rw [vis, fr]
    have e0 : bump 1 (bindsL (.mk k f t nm ar n s op A C ps l) ((0 : Nat) - 1 : Int)) (cntOf B) = cntOf B := by
      rw [show ((0 : Nat) - 1 : Int) = -1 from rfl, bindsL_pre, bump_nil]
    rw [e0] at hk
    rw [hk]
    by_cases h1 : k = 1
    · have hl0 : l = [] := name_leaf hn h1
      subst hl0
      simp [frK, E.kind, E.nm, h1]
    · simp [E.kind, h1]
theorem visK_fr : ∀ (t : E) (l : List E) (i d : Nat) (B F : List Nm), nodeRight t = true → rights l = true → t.kids.drop i = l ∧ i + l.length = t.kids.length →
    (visK t l i d).foldl fStep (bump 1 (bindsL t ((i : Int) - 1)) (cntOf B), F) = (cntOf B, F ++ ((if t.kind = 1 ∧ cntOf B t.nm = 0 then [t.nm] else []) ++ frK t l i B))
  | t, [], i, d, B, F, hn, hl, hi => by
    have hi2 : i = t.kids.length := by simpa using hi.2
    have hb : bindsL t (i : Int) = [] := by rw [hi2]; exact bindsL_behind hn
    simp only [visK, List.foldl_cons, List.foldl_nil, fStep, frK]
    rw [hb, bump_nil, bump_up, bump_down]
    by_cases h : t.kind = 1 ∧ cntOf B t.nm = 0 <;> simp [h]
  | t, x :: r, i, d, B, F, hn, hl, hi => by
    have hx : right x = true := by simp only [rights, Bool.and_eq_true] at hl; exact hl.1
    have hr : rights r = true := by simp only [rights, Bool.and_eq_true] at hl; exact hl.2
    have h1 : t.kind ≠ 1 := fun h => by
      have := name_leaf hn h
      have h2 := hi.2
      rw [this] at h2; simp at h2
    have hd : t.kids.drop (i + 1) = r ∧ (i + 1) + r.length = t.kids.length := by
      refine ⟨?_, by have := hi.2; simp at this; omega⟩
      rw [← List.drop_drop, hi.1]; rfl
    have hv := vis_fr x (d + 1) (B ++ bindsL t (i : Int)) F hx
    have hk := visK_fr t r (i + 1) d B (F ++ fr x (B ++ bindsL t (i : Int))) hn hr hd
    rw [show (((i + 1 : Nat) : Int) - 1) = (i : Int) from by omega, bump_up] at hk
    simp only [visK, List.foldl_cons, List.foldl_append, fStep, frK]
    rw [bump_up, bump_down, bump_up]
    simp only [h1, false_and, if_false, List.nil_append] at hk ⊢
    rw [hv, hk, List.append_assoc]
end
/-- All free names of a right expression, as the visits find them. -/
theorem vis_free (e : E) (h : right e = true) : ((shape.vk e 0 1).foldl fStep (cntOf [], [])) = (cntOf [], fr e []) := by
  have := vis_fr e 1 [] [] h
  rw [List.nil_append] at this
  rw [← this, vis_kids]; rfl
end Ex
end Go.Proofs.YtmmhpibkjdlkgaaGreat
namespace Go.Proofs.YtmmhpibkjdlkgaaGreat
open Go Go.RowKit Go.Shelf

theorem zero_cnt (w : World) : (zeroValue 3).run Tryz.prog w = .ok (.int .i64 0) w := by kernel_rfl
/-- In block b lies a map that says how often each name is bound; so many times it was written at most. -/
def CntAt (W : World) (b n : Nat) (c : Nm → Int) : Prop := ∃ D : DataW Unit, W.ownsMap Tryz.prog 9 (plainElem Tryz.prog 3) b n D ∧ Maps.IsMap D ∧ (∀ s : Nm, D.atKey (.string s) (.lit (.int .i64 0)) = .lit (.int .i64 (c s))) ∧ ∀ s : Nm, -(n : Int) ≤ c s ∧ c s ≤ n
theorem cnt_new (w : World) : CntAt (w.alloc (.map #[] 0)) w.heap.size 0 (cntOf []) :=
  ⟨.map [], World.ownsMap_made w _ _ _, Maps.isMap_empty, fun _ => rfl, fun _ => by simp [cntOf]⟩
theorem CntAt.same {W W' : World} {b n : Nat} {c : Nm → Int} (h : CntAt W b n c) (hs : W'.heap[b]? = W.heap[b]?) : CntAt W' b n c := by
  obtain ⟨D, h1, h2⟩ := h
  exact ⟨D, map_same h1 hs, h2⟩
theorem CntAt.lt {W : World} {b n : Nat} {c : Nm → Int} (h : CntAt W b n c) : b < W.heap.size := by
  obtain ⟨D, h1, _⟩ := h
  exact map_lt h1
theorem CntAt.map {W : World} {b n : Nat} {c : Nm → Int} (h : CntAt W b n c) : ∃ es cl, W.heap[b]? = some (.map es cl) := by
  obtain ⟨D, ⟨es, cl, h1, _⟩, _⟩ := h
  exact ⟨es, cl, h1⟩
theorem CntAt.bd {W : World} {b n : Nat} {c : Nm → Int} (h : CntAt W b n c) (s : Nm) : -(n : Int) ≤ c s ∧ c s ≤ n := by
  obtain ⟨D, _, _, _, h4⟩ := h
  exact h4 s
theorem Ab.cnt (base b n : Nat) (c : Nm → Int) : Ab base fun M W => CntAt W b n c ∧ ¬ M b := fun M M' A B h _ hT hM => by
  refine ⟨h.1.same (hT.block b h.1.lt h.2), fun x => ?_⟩
  rcases (hM b x).1 with y | y
  · exact h.2 y
  · have := h.1.lt; omega
set_option maxRecDepth 100000 in
theorem cnt_look {W : World} {b n : Nat} {c : Nm → Int} {s : Nm} (h : CntAt W b n c) (hk : s.length ≤ 300) : (Instr.lookup 81 (.map (some b)) (.string ⟨s.toArray⟩) false).run Tryz.prog W = .ok (.int .i64 (c s)) W := by
  obtain ⟨D, h1, h2, h3, h4⟩ := h
  obtain ⟨x, hr, hat, _⟩ := h1.lookup_int (Maps.string_keyed Tryz.underlying9) (t := 81) (e := 3) Tryz.underlying81 Tryz.underlying3 (zero_cnt _) (key_text hk)
  rw [h3 s] at hat
  injection hat with hat
  injection hat with _ hat
  rw [hr, ← hat]
theorem cnt_put {W : World} {b n : Nat} {c : Nm → Int} {s : Nm} {z : Int} (h : CntAt W b n c) (hn : n < 1000000000000) (hk : s.length ≤ 300) (hz : z = 1 ∨ z = -1) :
    ∃ W', (Instr.mapUpdate 81 (.map (some b)) (.string ⟨s.toArray⟩) (.int .i64 (c s + z))).run Tryz.prog W = .ok () W' ∧ CntAt W' b (n + 1) (bump z [s] c) ∧ W.grownBy W' (some b) := by
  obtain ⟨D, h1, h2, h3, h4⟩ := h
  have hcs := h4 s
  have hwf : (Lit.int .i64 (c s + z)).wf = true := by
    simp [Lit.wf, IntKind.min, IntKind.max, IntKind.bits, IntKind.signed]
    omega
  obtain ⟨w', r1, r2, r3⟩ := h1.update (Maps.string_keyed Tryz.underlying9) (t := 81) (e := 3) Tryz.underlying81 (by unfold maxLen; omega) (key_text hk) (plainElem_int Tryz.underlying3 hwf)
  refine ⟨w', r1, ⟨_, r2, h2.put _ _, fun y => ?_, fun y => ?_⟩, r3⟩
  · by_cases hy : y = s
    · subst hy
      rw [Maps.atKey_put_same h2 (show WideAt.IsKeyLit (.string y) from trivial)]
      simp [bump]
    · rw [Maps.atKey_put_other (by simpa using hy), h3 y]
      have : List.count y [s] = 0 := List.count_eq_zero.2 (by simpa using hy)
      simp [bump, this]
  · have h5 := h4 y
    have h6 : (List.count y [s] : Int) ≤ 1 ∧ 0 ≤ (List.count y [s] : Int) := by
      have : List.count y [s] ≤ [s].length := List.count_le_length
      simp at this; omega
    simp only [bump]
    rcases hz with rfl | rfl <;> omega
end Go.Proofs.YtmmhpibkjdlkgaaGreat
namespace Go.Proofs.YtmmhpibkjdlkgaaGreat
open Go Go.RowKit Go.Shelf
open Ex (E)

theorem wpIn_range_cnt {z : Int} {g : Operand} {ps : Array Tmp} {assign body : Code} {Q : Exit → Act → World → Prop} {a : Act} {w : World} {Be Bk b o n B N l₀ : Nat} {k : Int} {e : E} {c : Nm → Int} {r₀ : Loop} {mt : TypeId} {A : Nm → Act}
    (hl₀ : w.heap[l₀]? = some (.loop r₀)) (hg : a.eval g = .func (.func 101) #[] #[.pointer (some ⟨Be, 0, none⟩), .pointer (some ⟨Bk, 0, none⟩)])
    (c0 : w.cell? ⟨Be, 0, none⟩ = some (.pointer (some ⟨b, o, none⟩))) (c1 : w.cell? ⟨Bk, 0, none⟩ = some (.int .i64 k)) (hn : ENode (LT n) w e b o) (hb : b < n) (hnB : n ≤ B) (hBe : Be ≠ B) (hf : Ex.Fine e)
    (hps : ps.size = 1) (hN : N ≤ 500000000000) (hc : CntAt w B N c) (hm : w.heap[B + 1]? = some (.cells #[.map (some B)] mt))
    (hassign : ∀ (l : Nat) (x : Nm) (U : World) (K : Act → World → Prop), K (A x) U → assign.wpIn (Fence.wide.inRound l) 8 Tryz.prog (Exit.then K (fun _ _ _ => False)) { tmps := (ps.zip #[Value.string ⟨x.toArray⟩]).foldl (fun t (p, v) => t.setIfInBounds p v) a.tmps, defers := [] } U)
    (hbody : ∀ (l : Nat) (x : Nm) (U : World) (N' : Nat) (c' : Nm → Int) (Q' : Exit → Act → World → Prop), x.length ≤ 300 → CntAt U B N' c' → N' < 1000000000000 → U.heap[B + 1]? = some (.cells #[.map (some B)] mt) → (∀ a' U', CntAt U' B (N' + 1) (bump z [x] c') → U.grownBy U' (some B) → Q' .normal a' U') →
      body.wpIn (Fence.wide.inRound l) 8 Tryz.prog Q' (A x) U)
    (hdone : ∀ (U : World), CntAt U B (N + (bindsL e k).length) (bump z (bindsL e k) c) → w.heap.size ≤ U.heap.size → Turns (fun k => k = B ∨ w.heap.size ≤ k) w U → Q .normal a U) :
    (Code.rangeFunc g ps assign body).wpIn (Fence.wide.inRound l₀) 8 Tryz.prog Q a w := by
  have hfb := bindsL_fine hf k
  have hBw : B < w.heap.size := hc.lt
  have hB1 : B + 1 < w.heap.size := (Array.getElem?_eq_some_iff.1 hm).1
  have hBew : Be < w.heap.size := cell_lt c0
  refine wpIn_range_in hl₀ hg (enters_of Tryz.func101 (by kernel_rfl) rfl)
    (binds_seq (fun k => k = B ∨ w.heap.size ≤ k) Be Bk b o n k e w c0 c1 hn hb (by omega) hf (fun h => by omega) (fun k h => by omega))
    (fun _ _ _ _ _ _ => trivial) (Below.refl _ _) (fun k h => .inr h) (fun _ => hps.symm)
    (fun M pi U => (CntAt U B (N + pi.length) (bump z pi c) ∧ ¬ M B) ∧ (U.heap[B + 1]? = some (.cells #[.map (some B)] mt) ∧ ¬ M (B + 1)) ∧ (w.heap.size ≤ U.heap.size ∧ Turns (fun k => k = B ∨ w.heap.size ≤ k) w U))
    (fun _ _ _ _ => True) (fun _ _ _ _ => False) (fun x a' _ _ => a' = A x)
    (fun s => Ab.and (Ab.cnt _ _ _ _) (Ab.and (Ab.block _ _ _) (Ab.turns w (fun k hk => .inr hk)))) (fun _ _ => Ab.pure _ _) (fun _ _ => Ab.pure _ _)
    ⟨⟨by rw [bump_nil]; exact hc, fun h => h⟩, ⟨hm, fun h => h⟩, Nat.le_refl _, Turns.refl _ _⟩ (fun _ _ => Ab.pure _ _) trivial (fun _ _ _ _ _ _ _ _ => trivial) ?assign ?body ?done ?stop
  case assign =>
    intro l M pi x U K _ _ _ _ hK
    exact hassign l x U K (hK _ _ (Turns.refl _ _) rfl)
  case body =>
    rintro l M pi x a' U _ _ ⟨⟨hcU, hBM⟩, ⟨hmU, hmM⟩, hsU, hTU⟩ hM hle ⟨rest, hok⟩ _ rfl
    have hx : x.length ≤ 300 := hfb.2 x (by rw [← hok]; simp)
    have hpl : pi.length < 10000 := by have h1 := hfb.1; rw [← hok] at h1; simp at h1; omega
    refine hbody l x U (N + pi.length) _ _ hx hcU (by omega) hmU fun a2 U2 h1 h2 => ?_
    have hT2 : Turns (fun k => (k = B ∨ w.heap.size ≤ k) ∧ ¬ M k) U U2 := Turns.of_grown h2 (fun k e => by injection e with e; subst e; exact ⟨.inl rfl, hBM⟩)
    refine ⟨hT2, ⟨?_, hBM⟩, ⟨hT2.heap hmU (fun h => by omega), hmM⟩, Nat.le_trans hsU hT2.size, hTU.trans (hT2.mono fun _ _ h => h.1)⟩
    rw [bump_snoc, List.length_append]
    exact h1
  case done =>
    rintro M xs U hM rfl ⟨⟨hcU, _⟩, _, hsU, hTU⟩
    exact hdone U hcU hsU hTU
  case stop =>
    rintro M c pi U _ h
    exact h.elim
end Go.Proofs.YtmmhpibkjdlkgaaGreat
namespace Go.Proofs.YtmmhpibkjdlkgaaGreat
open Go Go.RowKit Go.Shelf
open Ex (E)

theorem snoc_all {α : Type} {P : List α → Prop} (h0 : P []) (h1 : ∀ l a, P l → P (l ++ [a])) (l : List α) : P l := by
  rw [← List.reverse_reverse l]
  induction l.reverse with
  | nil => exact h0
  | cons x r ih => rw [List.reverse_cons]; exact h1 _ _ ih
theorem txSet_keys (L : List Nm) : ∃ es, txSet L = .map es ∧ es.Pairwise (fun p q => p.1 ≠ q.1) ∧ ∀ p ∈ es, ∃ x, p.1 = .string x := by
  induction L using snoc_all with
  | h0 => exact ⟨[], rfl, List.Pairwise.nil, fun _ h => by cases h⟩
  | h1 L s ih =>
    obtain ⟨es, h1, h2, h3⟩ := ih
    have ht : Maps.Tidy (txSet (L ++ [s])) := by
      rw [txSet_snoc]
      exact Maps.Tidy.put ⟨es, h1, h2⟩ (show WideAt.IsKeyLit (.string s) from trivial) _
    obtain ⟨es', e1, e2⟩ := ht
    refine ⟨es', e1, e2, fun p hp => ?_⟩
    rw [txSet_snoc, h1] at e1
    injection e1 with e1
    rw [← e1] at hp
    rcases Go.ChangeMaps.mem_insert_iff.1 hp with rfl | hp
    · exact ⟨s, rfl⟩
    · exact h3 p (List.mem_filter.1 hp).1
theorem txKeys_nodup (L : List Nm) : (strKeys (txSet L)).Nodup := by
  obtain ⟨es, h1, h2, h3⟩ := txSet_keys L
  rw [h1]
  show (es.map fun p => strOf p.1).Nodup
  refine List.pairwise_map.2 (h2.imp_of_mem fun {p q} hp hq hne e => hne ?_)
  obtain ⟨a, ha⟩ := h3 p hp
  obtain ⟨b, hb⟩ := h3 q hq
  rw [ha, hb] at e ⊢
  exact congrArg _ e
theorem txKeys_mem (L : List Nm) (s : Nm) : s ∈ strKeys (txSet L) ↔ s ∈ L := by
  have hh := txSet_has L s
  obtain ⟨es, h1, h2, h3⟩ := txSet_keys L
  rw [h1] at hh ⊢
  have h4 : s ∈ L ↔ Maps.has (.map es : DataW Unit) (.string s) = true := by rw [hh, decide_eq_true_eq]
  rw [h4, Maps.has_eq, List.any_eq_true]
  show s ∈ es.map (fun p => strOf p.1) ↔ _
  rw [List.mem_map]
  constructor
  · rintro ⟨p, hp, rfl⟩
    obtain ⟨a, ha⟩ := h3 p hp
    exact ⟨p, hp, by rw [ha]; simp [Lit.sameKey, strOf]⟩
  · rintro ⟨p, hp, hs⟩
    obtain ⟨a, ha⟩ := h3 p hp
    rw [ha] at hs
    exact ⟨p, hp, by rw [ha]; simpa [Lit.sameKey, strOf] using hs⟩
theorem txKeys_len (L : List Nm) : (strKeys (txSet L)).length ≤ L.length := by
  have h : ∀ (m l : List Nm), m.Nodup → (∀ x ∈ m, x ∈ l) → m.length ≤ l.length := by
    intro m
    induction m with
    | nil => intro l _ _; exact Nat.zero_le _
    | cons x r ih =>
      intro l hn hm
      obtain ⟨hx, hr⟩ := List.nodup_cons.1 hn
      have := ih (l.erase x) hr fun y hy => by
        exact (List.mem_erase_of_ne (show y ≠ x from fun e => hx (by rw [← e]; exact hy))).2 (hm y (List.mem_cons_of_mem _ hy))
      have hl : (l.erase x).length = l.length - 1 := List.length_erase_of_mem (hm x (List.mem_cons_self ..))
      have : 0 < l.length := List.length_pos_of_mem (hm x (List.mem_cons_self ..))
      simp only [List.length_cons]; omega
  exact h _ _ (txKeys_nodup L) fun x hx => (txKeys_mem L x).1 hx
/-- The free names, rising. -/
def Ex.free (e : E) : List Nm := (strKeys (txSet (Ex.fr e []))).mergeSort leB
/-- The binders and the names found free, behind some visits. -/
def fSt (pre : List (Vi E)) : (Nm → Int) × List Nm := (pre.map Vi.key).foldl fStep (cntOf [], [])
theorem fSt_snoc (pre : List (Vi E)) (x : Vi E) : fSt (pre ++ [x]) = fStep (fSt pre) (x.t, x.i, x.d) := by unfold fSt; rw [List.map_append, List.foldl_append]; rfl
theorem fSt_len (pre : List (Vi E)) : (fSt pre).2.length ≤ pre.length := by
  induction pre using snoc_all with
  | h0 => exact Nat.le_refl _
  | h1 pre x ih =>
    rw [fSt_snoc, List.length_append]
    unfold fStep
    dsimp only
    split
    · rw [List.length_append]; simp; omega
    · simp; omega
theorem fSt_all {e : E} {xs : List (Vi E)} (hr : Ex.right e = true) (h : viAll Ex.shape e xs) : fSt xs = (cntOf [], Ex.fr e []) := by
  unfold fSt
  rw [show xs.map Vi.key = Ex.shape.vk e 0 1 from h]
  exact Ex.vis_free e hr
namespace Ex
mutual
theorem vis_mem : ∀ (p : E) (d : Nat) (k : E × Nat × Nat), k ∈ vis p d → (k.1, 0, k.2.2) ∈ pre p d
  | .mk k0 f t nm ar n s op A B ps l, d, k, h => by
    rw [vis] at h
    rw [pre]
    rcases visK_mem (.mk k0 f t nm ar n s op A B ps l) l 0 d k h with ⟨h1, h2⟩ | h
    · rw [h1, h2]; exact List.mem_cons_self ..
    · exact List.mem_cons_of_mem _ h
theorem visK_mem : ∀ (t : E) (l : List E) (i d : Nat) (k : E × Nat × Nat), k ∈ visK t l i d → (k.1 = t ∧ k.2.2 = d) ∨ (k.1, 0, k.2.2) ∈ pres l (d + 1)
  | t, [], i, d, k, h => by
    rw [visK] at h
    obtain rfl := List.mem_singleton.1 h
    exact .inl ⟨rfl, rfl⟩
  | t, x :: r, i, d, k, h => by
    rw [visK] at h
    rw [pres]
    rcases List.mem_cons.1 h with rfl | h
    · exact .inl ⟨rfl, rfl⟩
    · rcases List.mem_append.1 h with h | h
      · exact .inr (List.mem_append_left _ (vis_mem x (d + 1) k h))
      · rcases visK_mem t r (i + 1) d k h with h | h
        · exact .inl h
        · exact .inr (List.mem_append_right _ h)
end
mutual
theorem pre_size : ∀ (p : E) (d : Nat) (k : E × Nat × Nat), k ∈ pre p d → size k.1 ≤ size p
  | .mk k0 f t nm ar n s op A B ps l, d, k, h => by
    rw [pre] at h
    rcases List.mem_cons.1 h with rfl | h
    · exact Nat.le_refl _
    · have := pres_size l (d + 1) k h
      rw [size]; omega
theorem pres_size : ∀ (l : List E) (d : Nat) (k : E × Nat × Nat), k ∈ pres l d → size k.1 ≤ sizes l
  | [], d, k, h => by simp [pres] at h
  | x :: r, d, k, h => by
    rw [pres] at h
    rw [sizes]
    rcases List.mem_append.1 h with h | h
    · have := pre_size x d k h; omega
    · have := pres_size r d k h; omega
end
theorem kid_len (e : E) : e.kids.length < size e := by
  have hl : ∀ l : List E, l.length ≤ sizes l := fun l => by
    induction l with
    | nil => exact Nat.zero_le _
    | cons x r ih => have := size_pos x; rw [sizes, List.length_cons]; omega
  have := hl e.kids
  rw [size_kids]; omega
end Ex
theorem vat_fine {e : E} (hf : Ex.FineAll e) {pre : List (Vi E)} {x : Vi E} (hok : viOk Ex.shape e pre x) : Ex.Fine x.t ∧ pre.length ≤ 20000 ∧ x.i ≤ 20000 := by
  obtain ⟨⟨rest, hr⟩, _, hi, _⟩ := hok
  have hlen := Ex.vk_len e
  have h1 := hf.1
  have hv : Ex.shape.vk e 0 1 = Ex.vis e 1 := by rw [Ex.vis_kids]; rfl
  have hm : (x.t, x.i, x.d) ∈ Ex.vis e 1 := by rw [← hv, ← hr]; simp [Vi.key]
  have hp := Ex.vis_mem e 1 _ hm
  refine ⟨hf.2 _ hp, ?_, ?_⟩
  · have := congrArg List.length hr
    rw [List.length_append, List.length_map, List.length_cons] at this
    omega
  · have h2 := Ex.pre_size e 1 _ hp
    have h3 := Ex.kid_len x.t
    have h4 : x.i ≤ x.t.kids.length := hi
    have h5 : Ex.size x.t ≤ Ex.size e := h2
    omega
/-- A visit's node lies where it lay at its first visit. -/
theorem vat_place {n : Nat} {e : E} {V : World} {pre : List (Vi E)} {x : Vi E} (hok : viOk Ex.shape e pre x) (h0 : x.i = 0 → ElAt (LT n) V x) (h : ∀ y ∈ pre, ElAt (LT n) V y) : ElAt (LT n) V x := by
  by_cases hi : x.i = 0
  · exact h0 hi
  · obtain ⟨y, hy, h1, h2, _⟩ := hok.2.1 (by omega)
    obtain ⟨b, o, e1, e2, e3⟩ := h y hy
    exact ⟨b, o, by rw [← h2]; exact e1, e2, by rw [← h1]; exact e3⟩
end Go.Proofs.YtmmhpibkjdlkgaaGreat

/- Placed expressions: each node with the block and the offset where it lies; their walk; what a walk needs of the world at hand. tree.annotations: what it hands back; the iterator's contract. An expression that lies is a placed one; its annotations, plainly. -/
import Derived.Test.YtmmhpibkjdlkgaaGreatTnR
import Derived.Test.YtmmhpibkjdlkgaaGreatTxA
import Derived.Test.YtmmhpibkjdlkgaaGreatTeG
namespace Go.Proofs.YtmmhpibkjdlkgaaGreat
open Go Go.RowKit Go.Shelf
open Ex (E)

namespace Dx
/-- An expression with its place, its kids with theirs. -/
inductive D where
  | mk (e : E) (b o : Nat) (l : List D)
def D.e : D → E | .mk e _ _ _ => e
def D.b : D → Nat | .mk _ b _ _ => b
def D.o : D → Nat | .mk _ _ o _ => o
def D.l : D → List D | .mk _ _ _ l => l
mutual
def size : D → Nat | .mk _ _ _ l => sizes l + 1
def sizes : List D → Nat | [] => 0 | p :: r => size p + sizes r
end
mutual
def vis : D → Nat → List (D × Nat × Nat) | .mk e b o l, d => visK (.mk e b o l) l 0 d
def visK : D → List D → Nat → Nat → List (D × Nat × Nat)
  | t, [], i, d => [(t, i, d)]
  | t, x :: r, i, d => (t, i, d) :: (vis x (d + 1) ++ visK t r (i + 1) d)
end
mutual
def pre : D → Nat → List (D × Nat × Nat) | .mk e b o l, d => (.mk e b o l, 0, d) :: pres l (d + 1)
def pres : List D → Nat → List (D × Nat × Nat) | [], _ => [] | x :: r, d => pre x d ++ pres r d
end
theorem vis_kids (p : D) (d : Nat) : vis p d = visK p p.l 0 d := by cases p; rfl
def shape : Shape D where
  kids := D.l
  vk t i d := visK t (t.l.drop i) i d
  more t i d h := by
    rw [List.drop_eq_getElem_cons h, visK, List.drop_zero, vis_kids]
  last t i d h := by rw [List.drop_eq_nil_of_le (by omega), visK]
mutual
theorem vis_len : ∀ (p : D) (d : Nat), (vis p d).length + 1 = 2 * size p
  | .mk e b o l, d => by rw [vis, visK_len _ l 0 d, size]; omega
theorem visK_len : ∀ (t : D) (l : List D) (i d : Nat), (visK t l i d).length = 2 * sizes l + 1
  | t, [], i, d => by simp [visK, sizes]
  | t, x :: r, i, d => by
    have h1 := vis_len x (d + 1)
    have h2 := visK_len t r (i + 1) d
    simp only [visK, sizes, List.length_cons, List.length_append, h2]
    omega
end
mutual
theorem vis_nodes : ∀ (p : D) (d : Nat), ((vis p d).filter fun k => k.2.1 == 0) = pre p d
  | .mk e b o l, d => by rw [vis, visK_nodes _ l 0 d, pre]; rfl
theorem visK_nodes : ∀ (t : D) (l : List D) (i d : Nat), ((visK t l i d).filter fun k => k.2.1 == 0) = (if i = 0 then [(t, 0, d)] else []) ++ pres l (d + 1)
  | t, [], i, d => by
    by_cases h : i = 0
    · simp [visK, pres, h]
    · simp [visK, pres, h]
  | t, x :: r, i, d => by
    have h1 := vis_nodes x (d + 1)
    have h2 := visK_nodes t r (i + 1) d
    rw [if_neg (by omega), List.nil_append] at h2
    rw [visK, List.filter_cons, List.filter_append, h1, h2, pres]
    by_cases h : i = 0
    · simp [h]
    · simp [h]
end
theorem nKeys_shape (p : D) : nKeys shape p = pre p 1 := by
  show ((visK p (p.l.drop 0) 0 1).filter fun k => k.2.1 == 0) = _
  rw [List.drop_zero, ← vis_kids, vis_nodes]
theorem vk_len (p : D) : (shape.vk p 0 1).length ≤ 2 * size p := by
  have := vis_len p 1
  rw [vis_kids] at this
  show (visK p (p.l.drop 0) 0 1).length ≤ _
  rw [List.drop_zero]; omega
/-- Where a placed expression lies. -/
def D.at (d : D) : Option Addr := some ⟨d.b, d.o, none⟩
/-- The places of its annotations that are not none, in the order of the tree. -/
def anns (k : D × Nat × Nat) : List (Option Addr) := annL k.1.b k.1.o (Tp.none k.1.e.a) (Tp.none k.1.e.b)
def annsAll (d : D) : List (Option Addr) := (pre d 1).flatMap anns
end Dx
open Dx (D)
/-- The cell of a placed node's kids leads to them. -/
def KCell (W : World) (d : D) : Prop := ∃ a cap, W.cell? ⟨d.b, d.o + 15, none⟩ = some (.slice a d.l.length cap) ∧ (0 < d.l.length → ∃ kb ko, a = some ⟨kb, ko, none⟩ ∧ ∀ i (h : i < d.l.length), d.l[i].at = some ⟨kb, ko + i * 16, none⟩)
/-- What a walk over annotations needs of the world at hand. -/
def AllAt (n : Nat) (d : D) (W : World) : Prop := ∀ k ∈ Dx.pre d 1, k.1.b < n ∧ KCell W k.1 ∧ NoneAt W k.1.b (k.1.o + 8) (Tp.none k.1.e.a) ∧ NoneAt W k.1.b (k.1.o + 11) (Tp.none k.1.e.b)
theorem KCell.below {n : Nat} {W W' : World} {d : D} (h : KCell W d) (hb : Below n W W') (hn : d.b < n) : KCell W' d := by
  obtain ⟨a, cap, h1, h2⟩ := h
  exact ⟨a, cap, (hb.cell (p := ⟨d.b, d.o + 15, none⟩) hn).trans h1, h2⟩
theorem AllAt.below {n : Nat} {W W' : World} {d : D} (h : AllAt n d W) (hb : Below n W W') : AllAt n d W' := fun k hk => by
  obtain ⟨h0, h1, h2, h3⟩ := h k hk
  exact ⟨h0, h1.below hb h0, h2.below hb h0, h3.below hb h0⟩
theorem next_placed {W : World} {y : Vi D} (hp : y.p = y.t.at) (h : KCell W y.t) : NextN 51 Dx.shape W y fun x => x.p = x.t.at := fun i hi => by
  obtain ⟨a, cap, hc, hk⟩ := h
  have hcall := exprKid_any y.t.b y.t.o y.t.l.length cap i a W hc (fun h0 => by
    obtain ⟨kb, ko, e, _⟩ := hk h0
    exact ⟨kb, ko, e⟩)
  dsimp only
  rw [hp]
  refine hcall.mono ?_
  rintro e W' ⟨(⟨h1, b', o', e1, rfl⟩ | ⟨h1, rfl⟩), rfl⟩
  · refine ⟨rfl, .inl ⟨h1, some ⟨b', o' + i * 16, none⟩, rfl, ?_⟩⟩
    obtain ⟨kb, ko, e2, h2⟩ := hk (by omega)
    rw [e1] at e2
    injection e2 with e2
    injection e2 with e3 e4
    subst e3 e4
    exact (h2 i h1).symm
  · exact ⟨rfl, .inr ⟨h1, none, rfl⟩⟩
end Go.Proofs.YtmmhpibkjdlkgaaGreat
namespace Go.Proofs.YtmmhpibkjdlkgaaGreat
open Go Go.RowKit Go.Shelf
open Dx (D)

attribute [local go_sem] Oper.semAt_some

theorem annotations_any (p : Value) (hp : ∃ a, p = .pointer a) (w : World) :
    Calls Tryz.prog 72 #[p] w fun e w' => e = .returned (.func (.func 105) #[] #[.pointer (some ⟨w.heap.size, 0, none⟩)]) ∧ w' = w.alloc (.cells #[p] 68) := by
  obtain ⟨a, rfl⟩ := hp
  go_enter Tryz.func72, Tryz.ntmps72
  go_wp2
  go_ret
  exact ⟨rfl, rfl⟩
def annsOf (pre : List (Vi D)) : List (Option Addr) := pre.flatMap fun y => Dx.anns y.key
theorem annsOf_snoc (pre : List (Vi D)) (x : Vi D) : annsOf (pre ++ [x]) = annsOf pre ++ Dx.anns x.key := by simp [annsOf]
theorem annsOf_all {d : D} {xs : List (Vi D)} (h : noAll Dx.shape d xs) : annsOf xs = Dx.annsAll d := by
  rw [noAll, Dx.nKeys_shape] at h
  rw [Dx.annsAll, ← h, annsOf, List.flatMap_map]
theorem anns_ok {d : D} {pre : List (Vi D)} {x : Vi D} (hok : noOk Dx.shape d pre x) {pi : List (Option Addr)} {x2 : Option Addr} (h2 : ∃ rest, pi ++ x2 :: rest = Dx.anns x.key) : ∃ rest, (annsOf pre ++ pi) ++ x2 :: rest = Dx.annsAll d := by
  obtain ⟨⟨rest, hr⟩, _⟩ := hok
  obtain ⟨r2, h2⟩ := h2
  rw [Dx.nKeys_shape] at hr
  refine ⟨r2 ++ rest.flatMap Dx.anns, ?_⟩
  rw [Dx.annsAll, ← hr, List.flatMap_append, List.flatMap_cons, ← h2, annsOf, List.flatMap_map]
  simp
theorem dat_mem {d : D} {pre : List (Vi D)} {x : Vi D} (hok : noOk Dx.shape d pre x) : x.key ∈ Dx.pre d 1 := by
  obtain ⟨⟨rest, hr⟩, _⟩ := hok
  rw [Dx.nKeys_shape] at hr
  rw [← hr]; simp
theorem Ab.turns {base : Nat} {T : Nat → Prop} (V : World) (hT : ∀ k, base ≤ k → T k) : Ab base fun _ U => base ≤ U.heap.size ∧ Turns T V U := by
  rintro M M' A B ⟨h1, h2⟩ hM h3 _
  exact ⟨Nat.le_trans h1 h3.size, h2.trans (h3.mono fun k _ hk => hT k (hM k hk).1)⟩
theorem ab_all {n base : Nat} (hn : n ≤ base) (d : D) : Ab base fun _ V => n ≤ V.heap.size ∧ AllAt n d V := by
  rintro M M' A B ⟨h1, h2⟩ hM hT _
  exact ⟨Nat.le_trans h1 hT.size, h2.below (hT.below (Below.refl _ _) (fun k h => Nat.le_trans hn (hM k h).1) h1)⟩
set_option maxRecDepth 100000 in
set_option maxHeartbeats 4000000 in
theorem annAll_seq (Fr : Nat → Prop) (Be n : Nat) (d : D) (w : World) (hsz : Dx.size d ≤ 400000) (c0 : w.cell? ⟨Be, 0, none⟩ = some (.pointer d.at)) (hall : AllAt n d w) (hn : n ≤ w.heap.size) (hFr : ∀ k, w.heap.size ≤ k → Fr k) :
    SeqAt Tryz.prog 105 #[.pointer (some ⟨Be, 0, none⟩)] (fun p : Option Addr => #[.pointer p]) (fun xs => xs = Dx.annsAll d) (fun pre x => ∃ rest, pre ++ x :: rest = Dx.annsAll d) (fun _ => False)
      none (fun W _ _ => AllAt n d W) Fr w := fun l J Jx ok W hW hJ hJx hO hx0 hnx hY h0 => by
  have k0 := (World.cell?_of_block (a := ⟨Be, 0, none⟩) (hW.block Be (cell_lt c0))).trans c0
  have hBeW : Be < W.heap.size := Nat.lt_of_lt_of_le (cell_lt c0) hW.size
  have hall1 : AllAt n d W := hall.below (hW.mono hn)
  have hFr1 : ∀ k, W.heap.size ≤ k → Fr k := fun k h => hFr k (Nat.le_trans hW.size h)
  have hn1 : n ≤ W.heap.size := Nat.le_trans hn hW.size
  have HY := Lib.hid hY; have HJ := Lib.hid hJ; have HX := Lib.hid hJx; have HNX := Lib.hid hnx; have HFR := Lib.hid hFr1
  have HV := Lib.hid (nodesE_any (.pointer d.at) (.func (.func 51) #[] #[]) ⟨_, rfl⟩ ⟨_, rfl⟩)
  have HOA := Lib.hid (fun a => ownAnn_any (.pointer a) ⟨_, rfl⟩)
  clear hY hJ hJx hO hnx hx0 hFr hFr1 hW hall hn c0
  refine callsIn_wide (n := 9) |>.1 ?_
  refine callsIn_of_wp_marks Tryz.func105 rfl trivial ?_ rfl
  simp only [Tryz.ntmps105, List.size_toArray, List.length_cons, List.length_nil, Nat.reduceAdd, Nat.reduceSub, Array.replicate_succ, Array.replicate_zero, List.push_toArray, List.append_toArray, List.nil_append, List.cons_append]
  gi_wp2_with (refine ⟨trivial, ?_⟩; gi_at_call 50; refine (callsIn_wide.2 (HV.out _)).mono ?_; rintro e w' ⟨rfl, rfl⟩)
  obtain ⟨W3, hW3⟩ : ∃ W3, [Obj.cells #[.func (.yield l) #[] #[]] 132, .cells #[.pointer d.at] 68, .cells #[.func (.func 51) #[] #[]] 114].foldl World.alloc W = W3 := ⟨_, rfl⟩
  try rw [show ((W.alloc (.cells #[.func (.yield l) #[] #[]] 132)).alloc (.cells #[.pointer d.at] 68)).alloc (.cells #[.func (.func 51) #[] #[]] 114) = W3 from hW3]
  have hs3 : W3.heap.size = W.heap.size + 3 := by rw [← hW3]; exact allocs_size _ _
  have hb3 : Below W.heap.size W W3 := by rw [← hW3]; exact allocs_below _ _ (Nat.le_refl _)
  have hT3 : Turns (fun _ => False) W W3 := turns_below hb3
  have hy3 : W3.heap[W.heap.size]? = some (.cells #[.func (.yield l) #[] #[]] 132) := by rw [← hW3]; exact allocs_get _ W 0 _ rfl
  have hp3 : W3.heap[W.heap.size + 1]? = some (.cells #[.pointer d.at] 68) := by rw [← hW3]; exact allocs_get _ W 1 _ rfl
  have hk3 : W3.heap[W.heap.size + 1 + 1]? = some (.cells #[.func (.func 51) #[] #[]] 114) := by rw [← hW3]; exact allocs_get _ W 2 _ rfl
  clear hW3
  obtain ⟨E, hE⟩ : ∃ E : Nat → Prop, E = fun k => W.heap.size ≤ k ∧ k < W.heap.size + 3 := ⟨_, rfl⟩
  have he : ∀ k, E k ↔ (W.heap.size ≤ k ∧ k < W.heap.size + 3) := fun k => by rw [hE]
  have hEb : ∀ k, E k → W.heap.size ≤ k ∧ k < W3.heap.size := fun k h => by have := (he k).1 h; omega
  have hle3 : W.heap.size ≤ W3.heap.size := by omega
  have up : ∀ {M : Nat → Prop} {A : World}, (∀ k, M k → W3.heap.size ≤ k ∧ k < A.heap.size) → W3.heap.size ≤ A.heap.size → ∀ k, (M k ∨ E k) → W.heap.size ≤ k ∧ k < A.heap.size := fun h hA k hk => by
    rcases hk with x | x
    · have := h k x; omega
    · have := (he k).1 x; omega
  have hst : ∀ {p : (Nat → Prop) → World → Prop}, Ab W.heap.size p → p (fun _ => False) W → W3.heap.size ≤ W3.heap.size ∧ p (fun k => False ∨ E k) W3 := fun hp h => ⟨Nat.le_refl _, hp _ _ W W3 h (fun _ h => h.elim) hT3 (fun k hk => by
    rcases hk with h | h
    · exact h.elim
    · have := (he k).1 h; exact ⟨.inr (by omega), by omega⟩)⟩
  have hFE : ∀ k, W3.heap.size ≤ k → Fr k ∧ ¬ E k := fun k h => ⟨HFR.out k (by omega), fun h' => by have := (he k).1 h'; omega⟩
  have hEW : E W.heap.size := (he _).2 ⟨Nat.le_refl _, by omega⟩
  have HUP := Lib.hid hEb
  clear k0 hBeW
  refine wpIn_range_own (gf := 86) (lb := #[.pointer (some ⟨W.heap.size + 1, 0, none⟩), .pointer (some ⟨W.heap.size + 1 + 1, 0, none⟩)]) rfl (enters_of Tryz.func86 (by kernel_rfl) rfl)
    (nodesE_seq Dx.shape d (Nat.le_trans (Dx.vk_len d) (by omega)) (fun k => Fr k ∧ ¬ E k) (W.heap.size + 1) (W.heap.size + 1 + 1) d.at W3 hFE (cell_box hp3 rfl rfl) (cell_box hk3 rfl rfl))
    (fun _ _ _ _ hK h i => NextP.mono hK (h i)) (Below.refl _ _) hFE (fun _ => rfl)
    (fun M pre V => (W3.heap.size ≤ V.heap.size ∧ J (fun k => M k ∨ E k) (annsOf pre) V) ∧ (V.heap[W.heap.size]? = some (.cells #[.func (.yield l) #[] #[]] 132) ∧ ¬ M W.heap.size) ∧ (n ≤ V.heap.size ∧ AllAt n d V) ∧ (∀ y ∈ pre, y.p = y.t.at ∧ y.key ∈ Dx.pre d 1))
    (fun _ _ x _ => x.p = x.t.at)
    (fun c M pre V => c = .ret ∧ (W3.heap.size ≤ V.heap.size ∧ (∃ q, Jx (fun k => M k ∨ E k) q V)))
    (fun x a' _ _ => a' = { tmps := #[.func (.yield l) #[] #[], .pointer (some ⟨Be, 0, none⟩), .pointer (some ⟨W.heap.size, 0, none⟩), .pointer x.p, undef, .pointer d.at, .func (.func 86) #[] #[.pointer (some ⟨W.heap.size + 1, 0, none⟩), .pointer (some ⟨W.heap.size + 1 + 1, 0, none⟩)], .pointer x.p, .int .i64 (x.d : Int), undef, undef, undef, undef, undef, undef, undef], defers := [] })
    (fun s => Ab.and (Ab.plus (HJ.out (annsOf s)) E hEb hle3) (Ab.and (Ab.block _ _ _) (Ab.and (ab_all (Nat.le_trans hn1 hle3) d) (Ab.pure _ _)))) (fun _ s => Ab.and (Ab.pure _ _) (Ab.plus (Ab.ex fun q => HX.out q) E hEb hle3)) (fun _ _ => Ab.pure _ _)
    ⟨hst (HJ.out []) h0, ⟨hy3, fun h => h⟩, ⟨Nat.le_trans hn1 hle3, hall1.below (hb3.mono hn1)⟩, fun _ h => by cases h⟩ (fun s x => Ab.pure _ _) rfl ?next ?assign ?body ?done ?stop
  case next =>
    rintro M pre y V ⟨_, _, ⟨_, h7⟩, h8⟩ _ _ hy
    obtain ⟨e1, e2⟩ := h8 y hy
    exact next_placed e1 (h7 _ e2).2.1
  case assign =>
    intro l' M pre x V K hi hM hok hf hK
    clear hp3 hk3 hy3 hi
    gi_wp2
    exact hK _ _ (Turns.refl _ _) (by simp [Vi.enc2])
  case body =>
    rintro l' M pre x a' V hMl ⟨r, hl⟩ ⟨⟨h1, h2⟩, ⟨h3, h4⟩, ⟨h6, h7⟩, h8⟩ hM hle hok hf rfl
    have hxp : x.p = x.t.at := hf trivial
    have hmx := dat_mem hok
    have hall2 := h7 _ hmx
    obtain ⟨xn, _, xA, xB⟩ := hall2
    replace xn : x.t.b < n := xn
    obtain ⟨V1, hV1⟩ : ∃ V1, V.alloc (.cells #[.pointer x.p] 68) = V1 := ⟨_, rfl⟩
    have hs1 : V1.heap.size = V.heap.size + 1 := by rw [← hV1]; simp
    have hbV : Below V.heap.size V V1 := by rw [← hV1]; exact (Below.refl _ _).alloc (Nat.le_refl _) _
    have hc1 : V1.heap[V.heap.size]? = some (.cells #[.pointer x.p] 68) := by rw [← hV1]; exact World.alloc_heap_new V _
    have hlV : l' < V.heap.size := (Array.getElem?_eq_some_iff.1 hl).1
    have hl1 : V1.heap[l']? = some (.loop r) := (hbV.block _ hlV).trans hl
    have hWV : W.heap.size < V.heap.size := by omega
    have h31 : V1.heap[W.heap.size]? = some (.cells #[.func (.yield l) #[] #[]] 132) := (hbV.block _ hWV).trans h3
    have h71 : AllAt n d V1 := h7.below (hbV.mono h6)
    have hbn : Below n V V1 := hbV.mono h6
    have xA1 := xA.below hbn xn
    have xB1 := xB.below hbn xn
    have HM := Lib.hid hM; have H2 := Lib.hid h2; have H8 := Lib.hid h8; have HOK := Lib.hid hok; have HV1 := Lib.hid hV1; have H4 := Lib.hid h4; have HXP := Lib.hid hxp; have HMX := Lib.hid hmx
    clear hp3 hk3 hy3 hl h3 h7 hM h2 h8 hok hV1 h4 xA xB hf hxp hmx
    gi_wp2_with (refine ⟨trivial, ?_⟩; gi_at_call 93; refine (CallsIn.inRound l' (callsIn_wide.2 (HOA.out _ _))).mono ?_; rintro e w' ⟨rfl, rfl⟩)
    rw [HV1.out]
    obtain ⟨E2, hE2⟩ : ∃ E2 : Nat → Prop, E2 = fun k => (M k ∨ E k) ∨ k = V.heap.size := ⟨_, rfl⟩
    have e2 : ∀ k, E2 k ↔ ((M k ∨ E k) ∨ k = V.heap.size) := fun k => by rw [hE2]
    have hE2b : ∀ k, E2 k → W.heap.size ≤ k ∧ k < V1.heap.size := fun k hk => by
      rcases (e2 k).1 hk with x | x
      · have := up HM.out h1 k x; omega
      · omega
    have hW1 : W.heap.size ≤ V1.heap.size := by omega
    have hTk : ∀ k, V1.heap.size ≤ k → (Fr k ∧ ¬ E k) ∧ ¬ M k := fun k h => ⟨hFE k (by omega), fun m => by have := (HM.out k m).2; omega⟩
    have hJ1 : J (fun k => False ∨ E2 k) (annsOf pre ++ []) V1 := by
      rw [List.append_nil]
      exact HJ.out (annsOf pre) _ _ V V1 H2.out (up HM.out h1) (turns_below hbV) (fun k hk => by
        rcases hk with h | h
        · exact h.elim
        · rcases (e2 k).1 h with x | x
          · exact ⟨.inl x, by have := up HM.out h1 k x; omega⟩
          · exact ⟨.inr (by omega), by omega⟩)
    have up2 : ∀ {Mi : Nat → Prop} {A : World}, (∀ k, Mi k → V1.heap.size ≤ k ∧ k < A.heap.size) → V1.heap.size ≤ A.heap.size → ∀ k, (Mi k ∨ E2 k) → W.heap.size ≤ k ∧ k < A.heap.size := fun h hA k hk => by
      rcases hk with x | x
      · have := h k x; omega
      · have := hE2b k x; omega
    have shr : ∀ {Mi : Nat → Prop} {A : World}, (∀ k, Mi k → V1.heap.size ≤ k ∧ k < A.heap.size) → V1.heap.size ≤ A.heap.size → ∀ k, (M k ∨ E k) → ((Mi k ∨ E2 k) ∨ A.heap.size ≤ k) ∧ k < A.heap.size := fun h hA k hk => ⟨.inl (.inr ((e2 k).2 (.inl hk))), by have := up HM.out h1 k hk; omega⟩
    refine wpIn_range_in hl1 (gf := 120) (lb := #[.pointer (some ⟨V.heap.size, 0, none⟩)]) rfl (enters_of Tryz.func120 (by kernel_rfl) rfl)
      (ownAnn_seq (fun k => ((Fr k ∧ ¬ E k) ∧ ¬ M k) ∧ k ≠ V.heap.size) V.heap.size x.t.b x.t.o (Tp.none x.t.e.a) (Tp.none x.t.e.b) V1 (by rw [← show x.p = some ⟨x.t.b, x.t.o, none⟩ from HXP.out]; exact cell_box hc1 rfl rfl) xA1 xB1 (fun h => h.2 rfl) (by omega))
      (fun _ _ _ _ hK h e => ⟨(h e).1, fun hb => hK _ ((h e).2 hb)⟩) (Below.refl _ _) (fun k h => ⟨hTk k h, by omega⟩) (fun _ => rfl)
      (fun Mi pi U => (V1.heap.size ≤ U.heap.size ∧ J (fun k => Mi k ∨ E2 k) (annsOf pre ++ pi) U) ∧ (V1.heap.size ≤ U.heap.size ∧ Turns (fun k => (Fr k ∧ ¬ E k) ∧ ¬ M k) V U) ∧ (U.heap[W.heap.size]? = some (.cells #[.func (.yield l) #[] #[]] 132) ∧ ¬ Mi W.heap.size) ∧ (n ≤ U.heap.size ∧ AllAt n d U))
      (fun _ _ _ _ => True)
      (fun c Mi pi U => c = .ret ∧ (V1.heap.size ≤ U.heap.size ∧ Jx (fun k => Mi k ∨ E2 k) (annsOf pre ++ pi) U) ∧ (V1.heap.size ≤ U.heap.size ∧ Turns (fun k => (Fr k ∧ ¬ E k) ∧ ¬ M k) V U))
      (fun x2 a2 _ _ => a2 = { tmps := #[.func (.yield l) #[] #[], .pointer (some ⟨Be, 0, none⟩), .pointer (some ⟨W.heap.size, 0, none⟩), .pointer x.p, .pointer x2, .pointer d.at, .func (.func 86) #[] #[.pointer (some ⟨W.heap.size + 1, 0, none⟩), .pointer (some ⟨W.heap.size + 1 + 1, 0, none⟩)], .pointer x.p, .int .i64 (x.d : Int), .pointer x.p, .func (.func 120) #[] #[.pointer (some ⟨V.heap.size, 0, none⟩)], .pointer x2, undef, undef, undef, undef], defers := [] })
      (fun s => Ab.and (Ab.plus (HJ.out (annsOf pre ++ s)) E2 hE2b hW1) (Ab.and (Ab.turns V hTk) (Ab.and (Ab.block _ _ _) (ab_all (by omega) d)))) (fun _ s => Ab.and (Ab.pure _ _) (Ab.and (Ab.plus (HX.out (annsOf pre ++ s)) E2 hE2b hW1) (Ab.turns V hTk))) (fun _ _ => Ab.pure _ _)
      ⟨⟨Nat.le_refl _, hJ1⟩, ⟨Nat.le_refl _, turns_below hbV⟩, ⟨h31, fun h => h⟩, ⟨by omega, h71⟩⟩ (fun _ _ => Ab.pure _ _) trivial ?next2 ?assign2 ?body2 ?done2 ?stop2
    case next2 =>
      rintro Mi pi y U ⟨_, _, _, ⟨_, i8⟩⟩ _ _ _ _
      exact ⟨(i8 _ HMX.out).2.2.2, fun _ => trivial⟩
    case assign2 =>
      intro l2 Mi pi x2 U K hi hM2 hok2 _ hK
      clear hi
      gi_wp2
      exact hK _ _ (Turns.refl _ _) (by simp)
    case body2 =>
      rintro l2 Mi pi x2 a2 U _ _ ⟨⟨i1, i2⟩, ⟨i3, i4⟩, ⟨i5, i6⟩, ⟨i7, i8⟩⟩ hMi hle2 hok2 _ rfl
      have c3 : U.cell? ⟨W.heap.size, 0, none⟩ = some (.func (.yield l) #[] #[]) := cell_box i5 rfl rfl
      obtain ⟨fn, tmps, assign, body, hy, hRd⟩ := HY.out (fun k => Mi k ∨ E2 k) (annsOf pre ++ pi) x2 U i2 (up2 hMi hle2) (by omega) (anns_ok HOK.out hok2) (fun h => h.elim)
      replace hy : (Instr.yield l #[.pointer x2]).run Tryz.prog U = _ := hy
      have HI4 := Lib.hid i4; have HI5 := Lib.hid i5; have HMI := Lib.hid hMi
      clear i2 i4 i5 i8 hMi hJ1 h71 h31 hc1 hl1
      gi_wp2
      refine (round_in hRd).mono ?_
      rintro e U2 (⟨rfl, hj, hT⟩ | ⟨rfl, hj, hT⟩)
      · have hT1 : Turns (fun k => (((Fr k ∧ ¬ E k) ∧ ¬ M k) ∧ k ≠ V.heap.size) ∧ ¬ Mi k) U U2 := hT.mono fun k _ h => ⟨⟨⟨⟨h.1, fun m => h.2 (.inr ((e2 k).2 (.inl (.inr m))))⟩, fun m => h.2 (.inr ((e2 k).2 (.inl (.inl m))))⟩, fun m => h.2 (.inr ((e2 k).2 (.inr m)))⟩, fun m => h.2 (.inl m)⟩
        have hsU := hT.size
        have hal := HNX.out (fun k => Mi k ∨ E2 k) _ x2 U2 hj (fun k h => by have := up2 HMI.out hle2 k h; omega) (by omega) (List.mem_append_right _ (List.mem_singleton.2 rfl))
        have HA := Lib.hid hal; have HJ2 := Lib.hid hj; have HT1 := Lib.hid hT1; have HT := Lib.hid hT
        clear hy hRd hal hj hT1 hT
        gi_wp2
        refine ⟨HT1.out, ⟨by omega, by rw [List.append_assoc] at HJ2; exact HJ2.out⟩, ⟨by omega, HI4.out.trans (HT1.out.mono fun k _ h => h.1.1)⟩, ⟨HT1.out.heap HI5.out (fun h => h.1.1.1.2 hEW), i6⟩, ⟨by omega, HA.out⟩⟩
      · have hT1 : Turns (fun k => (((Fr k ∧ ¬ E k) ∧ ¬ M k) ∧ k ≠ V.heap.size) ∧ ¬ Mi k) U U2 := hT.mono fun k _ h => ⟨⟨⟨⟨h.1, fun m => h.2 (.inr ((e2 k).2 (.inl (.inr m))))⟩, fun m => h.2 (.inr ((e2 k).2 (.inl (.inl m))))⟩, fun m => h.2 (.inr ((e2 k).2 (.inr m)))⟩, fun m => h.2 (.inl m)⟩
        have hsU := hT.size
        have HJ2 := Lib.hid hj; have HT1 := Lib.hid hT1
        clear hy hRd hj hT1 hT
        gi_wp2
        exact ⟨HT1.out, rfl, ⟨by omega, by rw [List.append_assoc] at HJ2; exact HJ2.out⟩, ⟨by omega, HI4.out.trans (HT1.out.mono fun k _ h => h.1.1)⟩⟩
    case done2 =>
      rintro Mi xs U hMi hS ⟨⟨i1, i2⟩, ⟨i3, i4⟩, ⟨i5, i6⟩, ⟨i7, i8⟩⟩
      have hj : J (fun k => M k ∨ E k) (annsOf (pre ++ [x])) U := by
        rw [annsOf_snoc, show Dx.anns x.key = xs from hS.symm]
        exact HJ.out _ _ _ U U i2 (up2 hMi i1) (Turns.refl _ _) (shr hMi i1)
      have hfin : Turns (fun k => (Fr k ∧ ¬ E k) ∧ ¬ M k) V U ∧ (W3.heap.size ≤ U.heap.size ∧ J (fun k => M k ∨ E k) (annsOf (pre ++ [x])) U) ∧ (U.heap[W.heap.size]? = some (.cells #[.func (.yield l) #[] #[]] 132) ∧ ¬ M W.heap.size) ∧ (n ≤ U.heap.size ∧ AllAt n d U) ∧ (∀ y ∈ pre ++ [x], y.p = y.t.at ∧ y.key ∈ Dx.pre d 1) :=
        ⟨i4, ⟨by omega, hj⟩, ⟨i5, H4.out⟩, ⟨i7, i8⟩, fun y hy => by
          rcases List.mem_append.1 hy with h | h
          · exact H8.out y h
          · obtain rfl := List.mem_singleton.1 h
            exact ⟨HXP.out, HMX.out⟩⟩
      exact hfin
    case stop2 =>
      rintro Mi c pi U hMi ⟨rfl, ⟨i1, i2⟩, ⟨i3, i4⟩⟩
      have hj : Jx (fun k => M k ∨ E k) (annsOf pre ++ pi) U := HX.out _ _ _ U U i2 (up2 hMi i1) (Turns.refl _ _) (shr hMi i1)
      gi_wp2
      exact ⟨i4, rfl, by omega, _, hj⟩
  case done =>
    rintro D M xs V hD hMD hM hS ⟨⟨h1, h2⟩, _⟩ hK
    clear hp3 hk3 hy3
    gi_wp2
    refine ⟨by simp, .inl ⟨_, _, rfl, run_takeDeferred hK, ?_⟩⟩
    exact ⟨_, results_none rfl _ _ _, ⟨_, rfl⟩, .inl ⟨fun k => M k ∨ E k, annsOf xs, annsOf_all hS, HJ.out _ _ _ V _ h2 (up hM h1) (Turns.putObj V D _ (.inl hMD)) (fun k h => ⟨.inl h, by rw [World.putObj_size]; exact (up hM h1 k h).2⟩), fun k h => by rw [World.putObj_size]; exact up hM h1 k h⟩⟩
  case stop =>
    rintro D M c pre V hD hMD hM ⟨rfl, h1, q, h2⟩ hK
    clear hp3 hk3 hy3
    gi_wp2
    refine ⟨by simp, .inl ⟨_, _, rfl, run_takeDeferred hK, ?_⟩⟩
    exact ⟨_, results_none rfl _ _ _, ⟨_, rfl⟩, .inr ⟨fun k => M k ∨ E k, q, HX.out _ _ _ V _ h2 (up hM h1) (Turns.putObj V D _ (.inl hMD)) (fun k h => ⟨.inl h, by rw [World.putObj_size]; exact (up hM h1 k h).2⟩), fun k h => by rw [World.putObj_size]; exact up hM h1 k h⟩⟩
end Go.Proofs.YtmmhpibkjdlkgaaGreat
namespace Go.Proofs.YtmmhpibkjdlkgaaGreat
open Go Go.RowKit Go.Shelf
open Ex (E)
open Dx (D)

def annT (A B : Tp.T) : List Tp.T := (if Tp.none A then [] else [A]) ++ (if Tp.none B then [] else [B])
namespace Ex
mutual
/-- The annotations, in the order of the tree. -/
def anns : E → List Tp.T | .mk _ _ _ _ _ _ _ _ A B _ l => annT A B ++ annss l
def annss : List E → List Tp.T | [] => [] | x :: r => anns x ++ annss r
end
end Ex
/-- An annotation's type and place. -/
def annP (k : D × Nat × Nat) : List (Tp.T × Option Addr) := (if Tp.none k.1.e.a then [] else [(k.1.e.a, some ⟨k.1.b, k.1.o + 8, none⟩)]) ++ (if Tp.none k.1.e.b then [] else [(k.1.e.b, some ⟨k.1.b, k.1.o + 11, none⟩)])
theorem annP_snd (k : D × Nat × Nat) : (annP k).map Prod.snd = Dx.anns k := by
  unfold annP Dx.anns annL
  split <;> split <;> simp
theorem annP_fst (k : D × Nat × Nat) : (annP k).map Prod.fst = annT k.1.e.a k.1.e.b := by
  unfold annP annT
  split <;> split <;> simp
/-- What is known of a placed node that lies. -/
def Lies (G : Nat → Prop) (W : World) (d : D) : Prop := G d.b ∧ KCell W d ∧ NodeAt G W d.e.a d.b (d.o + 8) ∧ NodeAt G W d.e.b d.b (d.o + 11)
mutual
theorem placed {G : Nat → Prop} {W : World} : ∀ (e : E) (b o : Nat), G b → ENode G W e b o →
    ∃ d : D, d.e = e ∧ d.at = some ⟨b, o, none⟩ ∧ Dx.size d = Ex.size e ∧ (∀ dep, ∀ k ∈ Dx.pre d dep, Lies G W k.1) ∧ (∀ dep, (Dx.pre d dep).flatMap (fun k => annT k.1.e.a k.1.e.b) = Ex.anns e)
  | .mk k f t nm ar n s op A B ps l, b, o, hG, h => by
    have hk := h.kidsAt
    obtain ⟨ho, a, cap, hc, _, _, hks⟩ := hk
    obtain ⟨ds, h1, h2, h3, h4, h5⟩ := placeds l a hks
    have hlen : ds.length = l.length := by rw [← h1, List.length_map]
    refine ⟨.mk (.mk k f t nm ar n s op A B ps l) b o ds, rfl, rfl, by simp only [Dx.size, Ex.size, h2], ?_, ?_⟩
    · intro dep y hy
      simp only [Dx.pre, List.mem_cons] at hy
      rcases hy with rfl | hy
      · refine ⟨hG, ⟨a, cap, by show W.cell? ⟨b, o + 15, none⟩ = some (.slice a ds.length cap); rw [hlen]; exact hc, h5⟩, ho.ca, ho.cb⟩
      · exact h3 _ _ hy
    · intro dep
      simp only [Dx.pre, List.flatMap_cons, h4, Ex.anns]
      rfl
theorem placeds {G : Nat → Prop} {W : World} : ∀ (l : List E) (a : Option Addr), EKids G W l a →
    ∃ ds : List D, ds.map D.e = l ∧ Dx.sizes ds = Ex.sizes l ∧ (∀ dep, ∀ k ∈ Dx.pres ds dep, Lies G W k.1) ∧ (∀ dep, (Dx.pres ds dep).flatMap (fun k => annT k.1.e.a k.1.e.b) = Ex.annss l) ∧
      (0 < ds.length → ∃ kb ko, a = some ⟨kb, ko, none⟩ ∧ ∀ i (h : i < ds.length), ds[i].at = some ⟨kb, ko + i * 16, none⟩)
  | [], _, _ => ⟨[], rfl, rfl, by simp [Dx.pres], by simp [Dx.pres, Ex.annss], by simp⟩
  | x :: r, a, h => by
    simp only [EKids] at h
    obtain ⟨b, o, rfl, hG, hn, hr⟩ := h
    obtain ⟨d, d1, d2, d3, d4, d5⟩ := placed x b o hG hn
    obtain ⟨ds, h1, h2, h3, h4, h5⟩ := placeds r _ hr
    refine ⟨d :: ds, by simp [d1, h1], by simp only [Dx.sizes, Ex.sizes, d3, h2], ?_, ?_, ?_⟩
    · intro dep y hy
      simp only [Dx.pres, List.mem_append] at hy
      rcases hy with hy | hy
      · exact d4 _ _ hy
      · exact h3 _ _ hy
    · intro dep
      simp only [Dx.pres, List.flatMap_append, d5, h4, Ex.annss]
    · intro _
      refine ⟨b, o, rfl, fun i hi => ?_⟩
      cases i with
      | zero => rw [Nat.zero_mul, Nat.add_zero]; exact d2
      | succ j =>
        have hj : j < ds.length := by simpa using hi
        obtain ⟨kb, ko, e1, e2⟩ := h5 (by omega)
        injection e1 with e1
        injection e1 with e3 e4
        have := e2 j hj
        rw [← e3, ← e4, show o + 16 + j * 16 = o + (j + 1) * 16 from by omega] at this
        simpa using this
end
end Go.Proofs.YtmmhpibkjdlkgaaGreat

/- The tree's item and patKid: where a kid is. Where a walk over a pattern that lies still goes on. The law for a range over the nodes of a pattern that lies still. tree.CheckPat: what a pattern's nodes say of it, plainly; sets of names in a map. tree's none, annotation, optional, empty, walked. tree's empty, walked. -/
import Derived.Test.YtmmhpibkjdlkgaaGreatPure
import Derived.Test.YtmmhpibkjdlkgaaGreatTpP
import Derived.Test.YtmmhpibkjdlkgaaGreatTeR
import Derived.Maps.OwnIn
import Derived.Maps.OwnSet
import Derived.Maps.Views
import Derived.StringKeys
import Derived.Laws.Rows
import Derived.Test.YtmmhpibkjdlkgaaGreatTxA
import Derived.Test.YtmmhpibkjdlkgaaGreatTyS
namespace Go.Proofs.YtmmhpibkjdlkgaaGreat
open Go Go.RowKit
open Tr (P)

/-- Where a kid is. -/
def kidPtr (b o n i : Nat) : Option Addr := if i < n then some ⟨b, o + i * 7, none⟩ else none
set_option maxRecDepth 100000 in
theorem itemP_none (a : Option Addr) (n cap i : Nat) (w : World) (h : ¬ i < n) :
    Calls Tryz.prog 112 #[.slice a n cap, .int .i64 (i : Int)] w fun e w' => e = .returned (.tuple #[.pointer none, .bool false]) ∧ w = w' := by
  have h' : (i : Int) ≥ (n : Int) := by omega
  go_enter Tryz.func112, Tryz.ntmps112
  go_wp2_with fail
  go_ret2
  exact ⟨rfl, rfl⟩
set_option maxRecDepth 100000 in
theorem itemP_some (b o n cap i : Nat) (w : World) (h : i < n) :
    Calls Tryz.prog 112 #[.slice (some ⟨b, o, none⟩) n cap, .int .i64 (i : Int)] w fun e w' => e = .returned (.tuple #[.pointer (some ⟨b, o + i * 7, none⟩), .bool true]) ∧ w = w' := by
  have h' : ¬ (i : Int) ≥ (n : Int) := by omega
  have h2 : (i : Int) < (n : Int) := by omega
  have hi : 0 ≤ (i : Int) := by omega
  go_enter Tryz.func112, Tryz.ntmps112
  go_wp2_with fail
  go_ret2
  exact ⟨rfl, rfl⟩
set_option maxRecDepth 100000 in
theorem patKid_any (b o : Nat) (p : P) (a : Option Addr) (cap i : Nat) (w : World) (hc : PCells w b o p a cap) (ha : 0 < p.kids.length → ∃ b' o', a = some ⟨b', o', none⟩) :
    Calls Tryz.prog 80 #[.pointer (some ⟨b, o, none⟩), .int .i64 (i : Int)] w fun e w' => ((i < p.kids.length ∧ ∃ b' o', a = some ⟨b', o', none⟩ ∧ e = .returned (.tuple #[.pointer (some ⟨b', o' + i * 7, none⟩), .bool true])) ∨ (¬ i < p.kids.length ∧ e = .returned (.tuple #[.pointer none, .bool false]))) ∧ w = w' := by
  obtain ⟨e0, e1, e2, e3, e4, e5, e6⟩ := hc
  clear e0 e1 e2 e3 e4 e5
  by_cases hi : i < p.kids.length
  · obtain ⟨b', o', rfl⟩ := ha (by omega)
    have hit := itemP_some b' o' p.kids.length cap i w hi
    have HIT := Lib.hid hit
    clear hit
    go_enter Tryz.func80, Tryz.ntmps80
    go_wp2_with fail
    refine HIT.out.mono ?_
    rintro e w' ⟨rfl, rfl⟩
    go_wp2_with fail
    go_ret2
    exact ⟨.inl ⟨hi, b', o', rfl, rfl⟩, rfl⟩
  · have hit := itemP_none a p.kids.length cap i w hi
    have HIT := Lib.hid hit
    clear hit
    go_enter Tryz.func80, Tryz.ntmps80
    go_wp2_with fail
    refine HIT.out.mono ?_
    rintro e w' ⟨rfl, rfl⟩
    go_wp2_with fail
    go_ret2
    exact ⟨.inr ⟨hi, rfl⟩, rfl⟩
end Go.Proofs.YtmmhpibkjdlkgaaGreat
namespace Go.Proofs.YtmmhpibkjdlkgaaGreat
open Go Go.RowKit Go.Shelf
open Tr (P)

/-- Where a visit's node lies. -/
def PlAt (G : Nat → Prop) (W : World) (x : Vi P) : Prop := ∃ b o, x.p = some ⟨b, o, none⟩ ∧ G b ∧ PNode G W x.t b o
theorem next_pat {G : Nat → Prop} {W : World} {y : Vi P} (h : PlAt G W y) : NextN 80 Tr.shape W y fun x => PlAt G W x := fun i hi => by
  obtain ⟨b, o, hp, hG, hn⟩ := h
  obtain ⟨a, cap, hat, hc⟩ := hn.pat
  have hcall := patKid_any b o y.t a cap i W hc (fun h0 => by
    obtain ⟨b', o', e, _⟩ := hat.2.2.2.first h0
    exact ⟨b', o', e⟩)
  dsimp only
  rw [hp]
  refine hcall.mono ?_
  rintro e W' ⟨(⟨h1, b', o', rfl, rfl⟩ | ⟨h1, rfl⟩), rfl⟩
  · refine ⟨rfl, .inl ⟨h1, some ⟨b', o' + i * 7, none⟩, rfl, b', o' + i * 7, rfl, ?_, hat.2.2.2.nodes _ _ _ i h1⟩⟩
    obtain ⟨b2, o2, e, hG2, _⟩ := hat.2.2.2.first (by show 0 < y.t.kids.length; exact Nat.lt_of_le_of_lt (Nat.zero_le _) h1)
    injection e with e
    injection e with e1
    rw [e1]; exact hG2
  · exact ⟨rfl, .inr ⟨h1, none, rfl⟩⟩
/-- A place stays where the blocks of G stay. -/
theorem PlAt.below {n : Nat} {W W' : World} {x : Vi P} (h : PlAt (LT n) W x) (hb : Below n W W') : PlAt (LT n) W' x := by
  obtain ⟨b, o, hp, hG, hn⟩ := h
  exact ⟨b, o, hp, hG, PNode.mono (fun b o hb' => World.cell?_of_block (a := ⟨b, o, none⟩) (hb.block b hb')) (fun _ h => h) _ _ _ hG hn⟩
end Go.Proofs.YtmmhpibkjdlkgaaGreat
namespace Go.Proofs.YtmmhpibkjdlkgaaGreat
open Go Go.RowKit Go.Shelf
open Tr (P)

theorem ab_place {n base : Nat} (hn : n ≤ base) (y : Vi P) : Ab base fun _ V => n ≤ V.heap.size ∧ PlAt (LT n) V y := by
  rintro M M' A B ⟨h1, h2⟩ hM hT _
  refine ⟨Nat.le_trans h1 hT.size, h2.below ?_⟩
  exact hT.below (Below.refl _ _) (fun k h => Nat.le_trans hn (hM k h).1) h1
theorem ab_places {n base : Nat} (hn : n ≤ base) (pre : List (Vi P)) : Ab base fun _ V => n ≤ V.heap.size ∧ ∀ y ∈ pre, PlAt (LT n) V y := by
  rintro M M' A B ⟨h1, h2⟩ hM hT hM'
  exact ⟨Nat.le_trans h1 hT.size, fun y hy => (ab_place hn y M M' A B ⟨h1, h2 y hy⟩ hM hT hM').2⟩
theorem wpIn_range_pat {g : Operand} {ps : Array Tmp} {assign body : Code} {Q : Exit → Act → World → Prop} {a : Act} {w : World} {Bt Bk n b o : Nat} {p : P}
    (hg : a.eval g = .func (.func 110) #[] #[.pointer (some ⟨Bt, 0, none⟩), .pointer (some ⟨Bk, 0, none⟩)]) (hn : n ≤ w.heap.size) (hpl : PlAt (LT n) w ⟨p, some ⟨b, o, none⟩, 0, 1⟩) (hsz : Tr.size p ≤ 500000)
    (c0 : w.cell? ⟨Bt, 0, none⟩ = some (.pointer (some ⟨b, o, none⟩))) (c1 : w.cell? ⟨Bk, 0, none⟩ = some (.func (.func 80) #[] #[])) (hps : ps.size = 2)
    (I : (Nat → Prop) → List (Vi P) → World → Prop) (Ix : Code → (Nat → Prop) → List (Vi P) → World → Prop) (Ax : Vi P → Act → (Nat → Prop) → World → Prop)
    (hI : ∀ s, Ab w.heap.size fun M W => I M s W) (hIx : ∀ c s, Ab w.heap.size fun M W => Ix c M s W) (hAx : ∀ x a', Ab w.heap.size fun M W => Ax x a' M W) (h0 : I (fun _ => False) [] w)
    (hassign : ∀ (l : Nat) (M : Nat → Prop) (pre : List (Vi P)) (x : Vi P) (W : World) (K : Act → World → Prop), I M pre W → (∀ k, M k → w.heap.size ≤ k ∧ k < W.heap.size) → noOk Tr.shape p pre x → PlAt (LT n) W x →
      (∀ a' W', Turns (fun _ => False) W W' → Ax x a' M W' → K a' W') →
      assign.wpIn (Fence.wide.inRound l) 8 Tryz.prog (Exit.then K (fun _ _ _ => False)) { tmps := (ps.zip x.enc2).foldl (fun t (p, v) => t.setIfInBounds p v) a.tmps, defers := [] } W)
    (hbody : ∀ (l : Nat) (M : Nat → Prop) (pre : List (Vi P)) (x : Vi P) (a' : Act) (W : World), I M pre W → (∀ k, M k → w.heap.size ≤ k ∧ k < W.heap.size) → w.heap.size ≤ W.heap.size → noOk Tr.shape p pre x → PlAt (LT n) W x → Ax x a' M W →
      body.wpIn (Fence.wide.inRound l) 8 Tryz.prog (atPost (fun k => n ≤ k) M I Ix (pre ++ [x]) W) a' W)
    (hdone : ∀ (D : Nat) (M : Nat → Prop) (xs : List (Vi P)) (W : World), w.heap.size ≤ D → M D → (∀ k, M k → w.heap.size ≤ k ∧ k < W.heap.size) → noAll Tr.shape p xs → I M xs W → W.heap[D]? = some (.deferred (some [])) → Q .normal { a with defers := { target := .collected D, args := #[] } :: a.defers } W)
    (hstop : ∀ (D : Nat) (M : Nat → Prop) (c : Code) (pre : List (Vi P)) (W : World), w.heap.size ≤ D → M D → (∀ k, M k → w.heap.size ≤ k ∧ k < W.heap.size) → Ix c M pre W → W.heap[D]? = some (.deferred (some [])) → c.wpIn Fence.wide 9 Tryz.prog Q { a with defers := { target := .collected D, args := #[] } :: a.defers } W) :
    (Code.rangeFunc g ps assign body).wpIn Fence.wide 9 Tryz.prog Q a w := by
  refine wpIn_range_at hg (enters_of Tryz.func110 (by kernel_rfl) rfl)
    (nodesP_seq Tr.shape p (Nat.le_trans (Tr.vk_len p) (by omega)) (fun k => n ≤ k) Bt Bk (some ⟨b, o, none⟩) w (fun k h => Nat.le_trans hn h) c0 c1)
    (fun _ _ _ _ hK h i => NextP.mono hK (h i)) (Below.refl _ _) (fun k h => Nat.le_trans hn h) (fun _ => hps.symm)
    (fun M pre V => I M pre V ∧ (n ≤ V.heap.size ∧ ∀ y ∈ pre, PlAt (LT n) V y)) (fun _ _ x V => n ≤ V.heap.size ∧ PlAt (LT n) V x) Ix Ax
    (fun s => Ab.and (hI s) (ab_places hn s)) hIx hAx ⟨h0, hn, fun _ h => by cases h⟩ (fun _ x => ab_place hn x) ⟨hn, hpl⟩ ?next ?assign ?body ?done hstop
  case next =>
    rintro M pre y V ⟨_, h1, h2⟩ _ _ hy i
    exact NextP.mono (fun x hx => ⟨h1, hx⟩) (next_pat (h2 y hy) i)
  case assign =>
    rintro l M pre x V K ⟨h1, _⟩ hM hok hf hK
    exact hassign l M pre x V K h1 hM hok (hf trivial).2 hK
  case body =>
    rintro l M pre x a' V ⟨h1, h2, h3⟩ hM hle hok hf hax
    refine wpIn_mono (hbody l M pre x a' V h1 hM hle hok (hf trivial).2 hax) ?_
    intro e a3 V2 hp
    cases e with
    | normal =>
      obtain ⟨hT, hi⟩ := hp
      have hb : Below n V V2 := hT.below (Below.refl _ _) (fun k h => h.1) h2
      refine ⟨hT, hi, Nat.le_trans h2 hT.size, fun y hy => ?_⟩
      rcases List.mem_append.1 hy with hy | hy
      · exact (h3 y hy).below hb
      · obtain rfl := List.mem_singleton.1 hy
        exact (hf trivial).2.below hb
    | ret => exact hp
    | exit id => exact hp
    | goto t => exact hp
    | panic ch => exact hp
    | outgrown => exact hp
  case done =>
    rintro D M xs V hD hMD hM hS ⟨hi, _⟩ hK
    exact hdone D M xs V hD hMD hM hS hi hK
end Go.Proofs.YtmmhpibkjdlkgaaGreat
namespace Go.Proofs.YtmmhpibkjdlkgaaGreat
open Go Go.RowKit Go.Shelf
open Tr (P)

namespace Tr
def nr (p : P) : Bool := nodeRight p.kind p.num p.nm p.s p.kids.length
def nameOf (p : P) : List (List UInt8) := if p.kind = 2 then [p.nm] else []
def keyNames (l : List (P × Nat × Nat)) : List (List UInt8) := l.flatMap fun k => nameOf k.1
def goodK (l : List (P × Nat × Nat)) : Bool := (l.all fun k => nr k.1) && distinct (keyNames l)
mutual
theorem pre_right1 : ∀ (p : P) (d : Nat), ((pre p d).all fun k => nr k.1) = right1 p
  | .mk k f t n nm s l, d => by
    have h := pres_right1 l (d + 1)
    simp only [pre, List.all_cons, h, right1]
    rfl
theorem pres_right1 : ∀ (l : List P) (d : Nat), ((pres l d).all fun k => nr k.1) = rights1 l
  | [], d => by simp [pres, rights1]
  | x :: r, d => by
    have h1 := pre_right1 x d
    have h2 := pres_right1 r d
    simp only [pres, List.all_append, h1, h2, rights1]
end
mutual
theorem pre_names : ∀ (p : P) (d : Nat), keyNames (pre p d) = names p
  | .mk k f t n nm s l, d => by
    have h := pres_names l (d + 1)
    simp only [keyNames] at h
    simp only [pre, keyNames, List.flatMap_cons, h, names]
    rfl
theorem pres_names : ∀ (l : List P) (d : Nat), keyNames (pres l d) = namess l
  | [], d => by simp [pres, namess, keyNames]
  | x :: r, d => by
    have h1 := pre_names x d
    have h2 := pres_names r d
    simp only [keyNames] at h1 h2
    simp only [pres, keyNames, List.flatMap_append, h1, h2, namess]
end
mutual
theorem pre_short : ∀ (p : P) (d : Nat), short p = true → ∀ k ∈ pre p d, k.1.nm.length ≤ 300 ∧ k.1.s.length ≤ 300
  | .mk k f t n nm s l, d, h => by
    simp only [short, Bool.and_eq_true, decide_eq_true_eq] at h
    intro y hy
    simp only [pre, List.mem_cons] at hy
    rcases hy with rfl | hy
    · exact ⟨h.1.1, h.1.2⟩
    · exact pres_short l (d + 1) h.2 y hy
theorem pres_short : ∀ (l : List P) (d : Nat), shorts l = true → ∀ k ∈ pres l d, k.1.nm.length ≤ 300 ∧ k.1.s.length ≤ 300
  | [], d, _ => by simp [pres]
  | x :: r, d, h => by
    simp only [shorts, Bool.and_eq_true] at h
    intro y hy
    simp only [pres, List.mem_append] at hy
    rcases hy with hy | hy
    · exact pre_short x d h.1 y hy
    · exact pres_short r d h.2 y hy
end
mutual
theorem pre_len : ∀ (p : P) (d : Nat), (pre p d).length = size p
  | .mk k f t n nm s l, d => by rw [pre, List.length_cons, pres_len l (d + 1), size]
theorem pres_len : ∀ (l : List P) (d : Nat), (pres l d).length = sizes l
  | [], d => by simp [pres, sizes]
  | x :: r, d => by rw [pres, List.length_append, pre_len x d, pres_len r d, sizes]
end
theorem right_good (p : P) : right p = goodK (pre p 1) := by rw [goodK, pre_right1, pre_names]; rfl
theorem keyNames_append (a b : List (P × Nat × Nat)) : keyNames (a ++ b) = keyNames a ++ keyNames b := by simp [keyNames]
theorem bad_left {a b : List (P × Nat × Nat)} (h : goodK a = false) : goodK (a ++ b) = false := by
  rw [Bool.eq_false_iff] at h ⊢
  intro hx
  apply h
  simp only [goodK, List.all_append, keyNames_append, distinct, Bool.and_eq_true, decide_eq_true_eq] at hx ⊢
  exact ⟨hx.1.1, (List.nodup_append.1 hx.2).1⟩
end Tr
/-- A pattern's visits, as keys. -/
def pk (pre : List (Vi P)) : List (P × Nat × Nat) := pre.map Vi.key
theorem pk_snoc (pre : List (Vi P)) (x : Vi P) : pk (pre ++ [x]) = pk pre ++ [(x.t, x.i, x.d)] := by simp [pk, Vi.key]
theorem good_snoc (pre : List (Vi P)) (x : Vi P) : Tr.goodK (pk (pre ++ [x])) = (Tr.goodK (pk pre) && Tr.nr x.t && (if x.t.kind = 2 then decide (x.t.nm ∉ Tr.keyNames (pk pre)) else true)) := by
  rw [pk_snoc]
  simp only [Tr.goodK, List.all_append, Tr.keyNames_append, List.all_cons, List.all_nil, Bool.and_true, Tr.distinct]
  rw [Bool.eq_iff_iff]
  simp only [Bool.and_eq_true, decide_eq_true_eq]
  by_cases h2 : x.t.kind = 2
  · have e : Tr.keyNames [(x.t, x.i, x.d)] = [x.t.nm] := by simp [Tr.keyNames, Tr.nameOf, h2]
    rw [e, if_pos h2, List.nodup_append]
    simp only [decide_eq_true_eq]
    constructor
    · rintro ⟨⟨h1, h3⟩, h4, _, h6⟩
      exact ⟨⟨⟨h1, h4⟩, h3⟩, fun hm => h6 _ hm _ (List.mem_singleton.2 rfl) rfl⟩
    · rintro ⟨⟨⟨h1, h4⟩, h3⟩, h5⟩
      refine ⟨⟨h1, h3⟩, h4, by simp, ?_⟩
      intro a ha b hb e
      rw [List.mem_singleton] at hb
      subst hb; subst e; exact h5 ha
  · have e : Tr.keyNames [(x.t, x.i, x.d)] = [] := by simp [Tr.keyNames, Tr.nameOf, h2]
    rw [e, if_neg h2, List.append_nil]
    constructor
    · rintro ⟨⟨h1, h3⟩, h4⟩
      exact ⟨⟨⟨h1, h4⟩, h3⟩, rfl⟩
    · rintro ⟨⟨⟨h1, h4⟩, h3⟩, _⟩
      exact ⟨⟨h1, h3⟩, h4⟩
/-- A visit that was not good fells the whole. -/
theorem bad_all {p : P} {pre : List (Vi P)} {x : Vi P} (hok : noOk Tr.shape p pre x) (h : Tr.goodK (pk (pre ++ [x])) = false) : Tr.right p = false := by
  obtain ⟨⟨rest, hr⟩, _⟩ := hok
  rw [Tr.nKeys_shape] at hr
  rw [Tr.right_good, ← hr]
  have := Tr.bad_left (b := rest) h
  rw [pk_snoc, List.append_assoc] at this
  exact this
theorem at_short {p : P} {pre : List (Vi P)} {x : Vi P} (hok : noOk Tr.shape p pre x) (h : Tr.short p = true) : x.t.nm.length ≤ 300 ∧ x.t.s.length ≤ 300 := by
  obtain ⟨⟨rest, hr⟩, _⟩ := hok
  rw [Tr.nKeys_shape] at hr
  exact Tr.pre_short p 1 h x.key (by rw [← hr]; simp)
theorem pk_len {p : P} {pre : List (Vi P)} {x : Vi P} (hok : noOk Tr.shape p pre x) : pre.length < Tr.size p := by
  obtain ⟨⟨rest, hr⟩, _⟩ := hok
  have := congrArg List.length hr
  rw [Tr.nKeys_shape, Tr.pre_len, List.length_append, List.length_map, List.length_cons] at this
  omega
theorem keyNames_length : ∀ l : List (P × Nat × Nat), (Tr.keyNames l).length ≤ l.length
  | [] => Nat.le_refl _
  | k :: r => by
    have h := keyNames_length r
    simp only [Tr.keyNames] at h
    have h2 : (Tr.nameOf k.1).length ≤ 1 := by unfold Tr.nameOf; split <;> simp
    simp only [Tr.keyNames, List.flatMap_cons, List.length_append, List.length_cons]; omega

theorem map_same {P : Program} {k : TypeId} {R : Value → Option (DataW Unit × List MemPlace)} {b n : Nat} {D : DataW Unit} {w w' : World} (h : w.ownsMap P k R b n D) (hs : w'.heap[b]? = w.heap[b]?) : w'.ownsMap P k R b n D := by
  obtain ⟨es, clock, hb, F, hz, hD⟩ := h
  exact ⟨es, clock, hs.trans hb, F, hz, hD⟩
theorem map_lt {P : Program} {k : TypeId} {R : Value → Option (DataW Unit × List MemPlace)} {b n : Nat} {D : DataW Unit} {w : World} (h : w.ownsMap P k R b n D) : b < w.heap.size := by
  obtain ⟨es, clock, hb, _⟩ := h
  exact (Array.getElem?_eq_some_iff.1 hb).1
theorem Ab.map (base : Nat) (P : Program) (k : TypeId) (R : Value → Option (DataW Unit × List MemPlace)) (b n : Nat) (D : DataW Unit) : Ab base fun M W => W.ownsMap P k R b n D ∧ ¬ M b := fun M M' A B h _ hT hM => by
  refine ⟨map_same h.1 (hT.block b (map_lt h.1) h.2), fun x => ?_⟩
  rcases (hM b x).1 with y | y
  · exact h.2 y
  · have := map_lt h.1; omega
/-- A set of texts, as a map reads. -/
def txSet (L : List (List UInt8)) : DataW Unit := Maps.setOf (.agg []) (L.map Lit.string)
theorem txSet_snoc (L : List (List UInt8)) (s : List UInt8) : txSet (L ++ [s]) = (txSet L).put (.string s) (.agg []) := by unfold txSet; rw [List.map_append]; exact Maps.setOf_snoc _ _ _
theorem txSet_has (L : List (List UInt8)) (s : List UInt8) : Maps.has (txSet L) (.string s) = decide (s ∈ L) := by
  unfold txSet
  rw [Maps.has_setOf _ _ _ (fun x hx => by obtain ⟨y, _, rfl⟩ := List.mem_map.1 hx; trivial)]
  rw [Bool.eq_iff_iff, List.any_eq_true, decide_eq_true_eq]
  constructor
  · rintro ⟨x, hx, h⟩
    obtain ⟨y, hy, rfl⟩ := List.mem_map.1 hx
    simp [Lit.sameKey] at h
    exact h ▸ hy
  · intro h
    exact ⟨_, List.mem_map.2 ⟨s, h, rfl⟩, by simp [Lit.sameKey]⟩
theorem zero_unit (w : World) : (zeroValue 91).run Tryz.prog w = .ok (.agg #[]) w := by kernel_rfl
theorem key_text {s : List UInt8} (h : s.length ≤ 300) : keyOf Tryz.prog 9 (.string ⟨s.toArray⟩) = some (.string s) := by
  have := WideMaps.keyOf_string_mk (P := Tryz.prog) Tryz.underlying9 (s := ⟨s.toArray⟩) (by show s.toArray.size ≤ maxLen; rw [List.size_toArray]; unfold maxLen; omega)
  simpa using this
theorem Boxed.one {w : World} {b : Nat} {v : Value} {t : TypeId} (h : w.heap[b]? = some (.cells #[v] t)) : w.cell? ⟨b, 0, none⟩ = some v := cell_box h rfl rfl
/-- What a row of allocations leaves. -/
theorem allocs_size : ∀ (l : List Obj) (w : World), (l.foldl World.alloc w).heap.size = w.heap.size + l.length
  | [], _ => rfl
  | o :: r, w => by rw [List.foldl_cons, allocs_size r, World.size_alloc, List.length_cons]; omega
theorem allocs_below : ∀ (l : List Obj) (w : World) {n : Nat} (_ : n ≤ w.heap.size), Below n w (l.foldl World.alloc w)
  | [], _, _, _ => Below.refl _ _
  | o :: r, w, n, h => by
    have h1 : Below n w (w.alloc o) := (Below.refl _ _).alloc h _
    exact h1.trans (allocs_below r (w.alloc o) (by rw [World.size_alloc]; omega))
theorem allocs_get : ∀ (l : List Obj) (w : World) (i : Nat) (o : Obj), l[i]? = some o → (l.foldl World.alloc w).heap[w.heap.size + i]? = some o
  | [], _, _, _, h => by simp at h
  | x :: r, w, 0, o, h => by
    have e : x = o := by simpa using h
    subst e
    have h1 := allocs_below r (w.alloc x) (n := w.heap.size + 1) (by rw [World.size_alloc]; exact Nat.le_refl _)
    exact (h1.block w.heap.size (Nat.lt_succ_self _)).trans (World.alloc_heap_new w x)
  | x :: r, w, i + 1, o, h => by
    have h1 := allocs_get r (w.alloc x) i o (by simpa using h)
    rw [World.size_alloc] at h1
    rw [show w.heap.size + (i + 1) = w.heap.size + 1 + i from by omega]
    exact h1
theorem tx_look {W : World} {b n : Nat} {L : List (List UInt8)} {s : List UInt8} (h : W.ownsMap Tryz.prog 9 unitElem b n (txSet L)) (hk : s.length ≤ 300) : (Instr.lookup 82 (.map (some b)) (.string ⟨s.toArray⟩) true).run Tryz.prog W = .ok (.tuple #[.agg #[], .bool (decide (s ∈ L))]) W := by
  obtain ⟨v, ps, h1, h2⟩ := h.look_ok (Maps.string_keyed Tryz.underlying9) (t := 82) (e := 91) Tryz.underlying82 (zero_unit _) unitElem_mk (key_text hk)
  obtain ⟨rfl, _⟩ := unitElem_inv h2
  rw [txSet_has] at h1
  exact h1
theorem tx_put {W : World} {b : Nat} {L : List (List UInt8)} {s : List UInt8} (h : W.ownsMap Tryz.prog 9 unitElem b L.length (txSet L)) (hn : L.length < maxLen) (hk : s.length ≤ 300) : ∃ W', (Instr.mapUpdate 82 (.map (some b)) (.string ⟨s.toArray⟩) (.agg #[])).run Tryz.prog W = .ok () W' ∧ W'.ownsMap Tryz.prog 9 unitElem b (L.length + 1) (txSet (L ++ [s])) ∧ W.grownBy W' (some b) := by
  obtain ⟨w', h1, h2, h3⟩ := h.update (Maps.string_keyed Tryz.underlying9) (t := 82) (e := 91) Tryz.underlying82 hn (key_text hk) (unitElem_mk (H := Unit))
  exact ⟨w', h1, by rw [txSet_snoc]; exact h2, h3⟩
/-- A statement whose ways all come to one end. -/
theorem wpIn_one {F : Fence} {rm : Nat} {P : Program} {s : Code} {K : Act → World → Prop} {Q' : Exit → Act → World → Prop} {a : Act} {w : World} (A : Act) (W : World)
    (first : ∀ R : Act → World → Prop, R A W → s.wpIn F rm P (Exit.then R (fun _ _ _ => False)) a w) (rest : K A W) : s.wpIn F rm P (Exit.then K Q') a w := by
  refine wpIn_mono (first (fun a' w' => a' = A ∧ w' = W) ⟨rfl, rfl⟩) ?_
  intro e a' w' hq
  cases e with
  | normal => obtain ⟨rfl, rfl⟩ := hq; exact rest
  | exit id => exact hq.elim
  | goto l => exact hq.elim
  | ret => exact hq.elim
  | panic ch => exact hq.elim
  | outgrown => exact hq.elim
theorem wpIn_end {F : Fence} {rm : Nat} {P : Program} {s : Code} {Q : Exit → Act → World → Prop} {a : Act} {w : World} (A : Act) (W : World)
    (first : ∀ R : Act → World → Prop, R A W → s.wpIn F rm P (Exit.then R (fun _ _ _ => False)) a w) (rest : Q .normal A W) : s.wpIn F rm P Q a w := by
  refine wpIn_mono (first (fun a' w' => a' = A ∧ w' = W) ⟨rfl, rfl⟩) ?_
  intro e a' w' hq
  cases e with
  | normal => obtain ⟨rfl, rfl⟩ := hq; exact rest
  | exit id => exact hq.elim
  | goto l => exact hq.elim
  | ret => exact hq.elim
  | panic ch => exact hq.elim
  | outgrown => exact hq.elim
end Go.Proofs.YtmmhpibkjdlkgaaGreat
namespace Go.Proofs.YtmmhpibkjdlkgaaGreat
open Go Go.RowKit
open Tp (T)
open Ex (E)

namespace Tp
def none (t : T) : Bool := decide (t.kind = 0) && decide (t.num = 0) && decide (t.kids.length = 0)
/-- A right and closed type. -/
def ann (t : T) : Bool := right t && without 6 t
def opt (t : T) : Bool := none t || ann t
end Tp
theorem eqB {x y : Int} {b : Bool} (h : (decide (x = y)) = b) : (x == y) = b := by rw [← h]; exact Bool.eq_iff_iff.2 (by simp)
theorem ty_box {w : World} {t : T} {a : Option Addr} {cap : Nat} (h : TyAt (LT w.heap.size) w t a cap) (o : Obj) : TyAt (LT (w.alloc o).heap.size) (w.alloc o) t a cap := h.below ((Below.refl _ _).alloc (Nat.le_refl _) _) (fun _ h => h) (fun b h => Nat.lt_of_lt_of_le h (by simp))
set_option maxRecDepth 100000 in
set_option maxHeartbeats 4000000 in
theorem none_any (t : T) (a : Option Addr) (cap : Nat) (w : World) :
    Calls Tryz.prog 119 #[tv t a cap] w fun e w' => e = .returned (.bool (Tp.none t)) ∧ Below w.heap.size w w' := by
  have hal := fun o : Obj => ((Below.refl w.heap.size w).alloc (Nat.le_refl _) o)
  have HAL := Lib.hid hal; clear hal
  unfold tv Tp.none
  obtain ⟨k, hk⟩ : ∃ k, t.kind = k := ⟨_, rfl⟩
  obtain ⟨n, hn⟩ : ∃ n, t.num = n := ⟨_, rfl⟩
  obtain ⟨m, hm⟩ : ∃ m, t.kids.length = m := ⟨_, rfl⟩
  rw [hk, hn, hm]
  clear hk hn hm
  by_cases h1 : k = 0
  · have g1 : (k == 0) = true := by simp [h1]
    by_cases h2 : n = 0
    · have g2 : (n == 0) = true := by simp [h2]
      by_cases h3 : m = 0
      · have g3 : ((m : Int) == 0) = true := by simp [h3]
        go_enter Tryz.func119, Tryz.ntmps119
        go_wp2_with fail
        go_ret
        exact ⟨ret_boolT (by simp [h1, h2, h3]), HAL.out _⟩
      · have g3 : ((m : Int) == 0) = false := by simp [h3]
        go_enter Tryz.func119, Tryz.ntmps119
        go_wp2_with fail
        go_ret
        exact ⟨ret_boolT (by simp [h3]), HAL.out _⟩
    · have g2 : (n == 0) = false := by simp [h2]
      go_enter Tryz.func119, Tryz.ntmps119
      go_wp2_with fail
      go_ret
      exact ⟨ret_boolT (by simp [h2]), HAL.out _⟩
  · have g1 : (k == 0) = false := by simp [h1]
    go_enter Tryz.func119, Tryz.ntmps119
    go_wp2_with fail
    go_ret
    exact ⟨ret_boolT (by simp [h1]), HAL.out _⟩
set_option maxRecDepth 100000 in
set_option maxHeartbeats 4000000 in
theorem annotation_any (t : T) (a : Option Addr) (cap : Nat) (w : World) (hsz : Tp.size t ≤ 10000) (hty : TyAt (LT w.heap.size) w t a cap) :
    Calls Tryz.prog 74 #[tv t a cap] w fun e w' => e = .returned (.bool (Tp.ann t)) ∧ Below w.heap.size w w' := by
  have h1 := fun w1 h => check_any t a cap w1 hsz h
  have h2 := fun w1 h => closed_any t a cap w1 hsz h
  have hT := fun o => ty_box hty o
  have hal := fun o : Obj => ((Below.refl w.heap.size w).alloc (Nat.le_refl _) o)
  unfold tv at h1 h2 ⊢
  obtain ⟨k, hk⟩ : ∃ k, t.kind = k := ⟨_, rfl⟩
  obtain ⟨n, hn⟩ : ∃ n, t.num = n := ⟨_, rfl⟩
  obtain ⟨m, hm⟩ : ∃ m, t.kids.length = m := ⟨_, rfl⟩
  rw [hk, hn, hm] at h1 h2 ⊢
  unfold Tp.ann
  obtain ⟨br, hbr⟩ : ∃ b, Tp.right t = b := ⟨_, rfl⟩
  rw [hbr] at h1 ⊢
  have H1 := Lib.hid h1; have H2 := Lib.hid h2; have HT := Lib.hid hT; have HAL := Lib.hid hal; have HTY := Lib.hid hty
  clear hk hn hm h1 h2 hT hal hbr hty
  cases br with
  | false =>
    rw [show errOf false = 1 from rfl] at H1
    go_enter Tryz.func74, Tryz.ntmps74
    go_wp2_with (go_at_call 106; refine (H1.out _ (HT.out _)).mono ?_; rintro e w1 ⟨rfl, hb⟩; have HB := Lib.hid hb; clear hb)
    go_ret
    exact ⟨ret_boolT (by simp), (HAL.out _).trans (HB.out.mono (by simp))⟩
  | true =>
    rw [show errOf true = 0 from rfl] at H1
    go_enter Tryz.func74, Tryz.ntmps74
    go_wp2_with (first
      | (go_at_call 106; refine (H1.out _ (HT.out _)).mono ?_; rintro e w1 ⟨rfl, hb⟩; have hx := hb.block w.heap.size (by simp); have hx2 := hx.trans (World.alloc_heap_new w _); have c0 := cell_box (i := 0) hx2 rfl rfl; have c1 := cell_box (i := 1) hx2 rfl rfl; have c2 := cell_box (i := 2) hx2 rfl rfl; have HB := Lib.hid hb; clear hb hx hx2)
      | (go_at_call 107; refine (H2.out _ ((HT.out _).below HB.out (fun _ h => h) (fun b h => Nat.lt_of_lt_of_le h HB.out.size))).mono ?_; rintro e w2 ⟨rfl, hb2⟩; have HB2 := Lib.hid hb2; clear hb2))
    go_ret
    exact ⟨ret_boolT (by simp), (HAL.out _).trans ((HB.out.trans (HB2.out.mono HB.out.size)).mono (by simp))⟩
set_option maxRecDepth 100000 in
set_option maxHeartbeats 4000000 in
theorem optional_any (t : T) (a : Option Addr) (cap : Nat) (w : World) (hsz : Tp.size t ≤ 10000) (hty : TyAt (LT w.heap.size) w t a cap) :
    Calls Tryz.prog 90 #[tv t a cap] w fun e w' => e = .returned (.bool (Tp.opt t)) ∧ Below w.heap.size w w' := by
  have h1 := fun w1 => none_any t a cap w1
  have h2 := fun w1 h => annotation_any t a cap w1 hsz h
  have hT := fun o => ty_box hty o
  have hal := fun o : Obj => ((Below.refl w.heap.size w).alloc (Nat.le_refl _) o)
  unfold tv at h1 h2 ⊢
  obtain ⟨k, hk⟩ : ∃ k, t.kind = k := ⟨_, rfl⟩
  obtain ⟨n, hn⟩ : ∃ n, t.num = n := ⟨_, rfl⟩
  obtain ⟨m, hm⟩ : ∃ m, t.kids.length = m := ⟨_, rfl⟩
  rw [hk, hn, hm] at h1 h2 ⊢
  unfold Tp.opt
  obtain ⟨br, hbr⟩ : ∃ b, Tp.none t = b := ⟨_, rfl⟩
  rw [hbr] at h1 ⊢
  have H1 := Lib.hid h1; have H2 := Lib.hid h2; have HT := Lib.hid hT; have HAL := Lib.hid hal; have HTY := Lib.hid hty
  clear hk hn hm h1 h2 hT hal hbr hty
  cases br with
  | true =>
    go_enter Tryz.func90, Tryz.ntmps90
    go_wp2_with (go_at_call 119; refine (H1.out _).mono ?_; rintro e w1 ⟨rfl, hb⟩; have HB := Lib.hid hb; clear hb)
    go_ret
    exact ⟨ret_boolT (by simp), (HAL.out _).trans (HB.out.mono (by simp))⟩
  | false =>
    go_enter Tryz.func90, Tryz.ntmps90
    go_wp2_with (first
      | (go_at_call 119; refine (H1.out _).mono ?_; rintro e w1 ⟨rfl, hb⟩; have hx := hb.block w.heap.size (by simp); have hx2 := hx.trans (World.alloc_heap_new w _); have c0 := cell_box (i := 0) hx2 rfl rfl; have c1 := cell_box (i := 1) hx2 rfl rfl; have c2 := cell_box (i := 2) hx2 rfl rfl; have HB := Lib.hid hb; clear hb hx hx2)
      | (go_at_call 74; refine (H2.out _ ((HT.out _).below HB.out (fun _ h => h) (fun b h => Nat.lt_of_lt_of_le h HB.out.size))).mono ?_; rintro e w2 ⟨rfl, hb2⟩; have HB2 := Lib.hid hb2; clear hb2))
    go_ret
    exact ⟨ret_boolT (by simp), (HAL.out _).trans ((HB.out.trans (HB2.out.mono HB.out.size)).mono (by simp))⟩
end Go.Proofs.YtmmhpibkjdlkgaaGreat
namespace Go.Proofs.YtmmhpibkjdlkgaaGreat
open Go Go.RowKit
open Tp (T)
open Ex (E)

set_option maxRecDepth 100000 in
set_option maxHeartbeats 16000000 in
theorem empty_any (k f t : Int) (nm ar : List UInt8) (n : Int) (s : List UInt8) (op : Int) (A : T) (aa : Option Addr) (ac : Nat) (B : T) (ba : Option Addr) (bc : Nat) (pl : Nat) (pa : Option Addr) (pc : Nat) (kl : Nat) (ka : Option Addr) (kc : Nat) (w : World) :
    Calls Tryz.prog 92 #[.agg #[.int .i64 k, .int .i64 f, .int .i64 t, .string ⟨nm.toArray⟩, .string ⟨ar.toArray⟩, .int .i64 n, .string ⟨s.toArray⟩, .int .i64 op, .int .i64 A.kind, .int .i64 A.num, .slice aa A.kids.length ac, .int .i64 B.kind, .int .i64 B.num, .slice ba B.kids.length bc, .slice pa pl pc, .slice ka kl kc]] w fun e w' =>
      e = .returned (.bool (decide (nm = []) && decide (ar = []) && decide (n = 0) && decide (s = []) && decide (op = 0) && Tp.none A && Tp.none B && decide (pl = 0))) ∧ Below w.heap.size w w' := by
  have hA := fun w1 => none_any A aa ac w1
  have hB := fun w1 => none_any B ba bc w1
  have hal := fun o : Obj => ((Below.refl w.heap.size w).alloc (Nat.le_refl _) o)
  unfold tv at hA hB
  obtain ⟨bA, hbA⟩ : ∃ b, Tp.none A = b := ⟨_, rfl⟩
  obtain ⟨bB, hbB⟩ : ∃ b, Tp.none B = b := ⟨_, rfl⟩
  rw [hbA] at hA ⊢
  rw [hbB] at hB ⊢
  obtain ⟨a0, ha0⟩ : ∃ k, A.kind = k := ⟨_, rfl⟩
  obtain ⟨a1, ha1⟩ : ∃ k, A.num = k := ⟨_, rfl⟩
  obtain ⟨a2, ha2⟩ : ∃ k, A.kids.length = k := ⟨_, rfl⟩
  obtain ⟨b0, hb0⟩ : ∃ k, B.kind = k := ⟨_, rfl⟩
  obtain ⟨b1, hb1⟩ : ∃ k, B.num = k := ⟨_, rfl⟩
  obtain ⟨b2, hb2⟩ : ∃ k, B.kids.length = k := ⟨_, rfl⟩
  rw [ha0, ha1, ha2] at hA ⊢
  rw [hb0, hb1, hb2] at hB ⊢
  have HA := Lib.hid hA; have HB := Lib.hid hB; have HAL := Lib.hid hal
  clear hA hB hal hbA hbB ha0 ha1 ha2 hb0 hb1 hb2
  by_cases h0 : nm = []
  case neg =>
    have g0 : (nm == []) = false := by simp [h0]
    go_enter Tryz.func92, Tryz.ntmps92
    go_wp2_with fail
    go_ret
    exact ⟨ret_boolT (by simp [h0]), HAL.out _⟩
  subst h0
  by_cases h1 : ar = []
  case neg =>
    have g1 : (ar == []) = false := by simp [h1]
    go_enter Tryz.func92, Tryz.ntmps92
    go_wp2_with fail
    go_ret
    exact ⟨ret_boolT (by simp [h1]), HAL.out _⟩
  subst h1
  by_cases h2 : n = 0
  case neg =>
    have g2 : (n == 0) = false := by simp [h2]
    go_enter Tryz.func92, Tryz.ntmps92
    go_wp2_with fail
    go_ret
    exact ⟨ret_boolT (by simp [h2]), HAL.out _⟩
  subst h2
  by_cases h3 : s = []
  case neg =>
    have g3 : (s == []) = false := by simp [h3]
    go_enter Tryz.func92, Tryz.ntmps92
    go_wp2_with fail
    go_ret
    exact ⟨ret_boolT (by simp [h3]), HAL.out _⟩
  subst h3
  by_cases h4 : op = 0
  case neg =>
    have g4 : (op == 0) = false := by simp [h4]
    go_enter Tryz.func92, Tryz.ntmps92
    go_wp2_with fail
    go_ret
    exact ⟨ret_boolT (by simp [h4]), HAL.out _⟩
  subst h4
  cases bA with
  | false =>
    go_enter Tryz.func92, Tryz.ntmps92
    go_wp2_with (go_at_call 119; with_reducible refine (HA.out _).mono ?_; rintro e w1 ⟨rfl, hb⟩; have hx2 := (hb.block w.heap.size (by simp)).trans (World.alloc_heap_new w _); have c11 := cell_box (i := 11) hx2 rfl rfl; have c12 := cell_box (i := 12) hx2 rfl rfl; have c13 := cell_box (i := 13) hx2 rfl rfl; have HB1 := Lib.hid hb; have HX2 := Lib.hid hx2; clear hb hx2)
    go_ret
    exact ⟨ret_boolT (by simp), (HAL.out _).trans (HB1.out.mono (by simp))⟩
  | true =>
    cases bB with
    | false =>
      go_enter Tryz.func92, Tryz.ntmps92
      go_wp2_with (first | (go_at_call 119; with_reducible refine (HA.out _).mono ?_; rintro e w1 ⟨rfl, hb⟩; have hx2 := (hb.block w.heap.size (by simp)).trans (World.alloc_heap_new w _); have c11 := cell_box (i := 11) hx2 rfl rfl; have c12 := cell_box (i := 12) hx2 rfl rfl; have c13 := cell_box (i := 13) hx2 rfl rfl; have HB1 := Lib.hid hb; have HX2 := Lib.hid hx2; clear hb hx2) | (go_at_call 119; with_reducible refine (HB.out _).mono ?_; rintro e w2 ⟨rfl, hb⟩; have hx2 := (hb.block w.heap.size (Nat.lt_of_lt_of_le (by simp) HB1.out.size)).trans HX2.out; have c14 := cell_box (i := 14) hx2 rfl rfl; have HB2 := Lib.hid hb; clear hb hx2))
      go_ret
      exact ⟨ret_boolT (by simp), (HAL.out _).trans ((HB1.out.trans (HB2.out.mono HB1.out.size)).mono (by simp))⟩
    | true =>
      by_cases h7 : pl = 0
      case neg =>
        have g7 : ((pl : Int) == 0) = false := by simp [h7]
        go_enter Tryz.func92, Tryz.ntmps92
        go_wp2_with (first | (go_at_call 119; with_reducible refine (HA.out _).mono ?_; rintro e w1 ⟨rfl, hb⟩; have hx2 := (hb.block w.heap.size (by simp)).trans (World.alloc_heap_new w _); have c11 := cell_box (i := 11) hx2 rfl rfl; have c12 := cell_box (i := 12) hx2 rfl rfl; have c13 := cell_box (i := 13) hx2 rfl rfl; have HB1 := Lib.hid hb; have HX2 := Lib.hid hx2; clear hb hx2) | (go_at_call 119; with_reducible refine (HB.out _).mono ?_; rintro e w2 ⟨rfl, hb⟩; have hx2 := (hb.block w.heap.size (Nat.lt_of_lt_of_le (by simp) HB1.out.size)).trans HX2.out; have c14 := cell_box (i := 14) hx2 rfl rfl; have HB2 := Lib.hid hb; clear hb hx2))
        go_ret
        exact ⟨ret_boolT (by simp [h7]), (HAL.out _).trans ((HB1.out.trans (HB2.out.mono HB1.out.size)).mono (by simp))⟩
      subst h7
      go_enter Tryz.func92, Tryz.ntmps92
      go_wp2_with (first | (go_at_call 119; with_reducible refine (HA.out _).mono ?_; rintro e w1 ⟨rfl, hb⟩; have hx2 := (hb.block w.heap.size (by simp)).trans (World.alloc_heap_new w _); have c11 := cell_box (i := 11) hx2 rfl rfl; have c12 := cell_box (i := 12) hx2 rfl rfl; have c13 := cell_box (i := 13) hx2 rfl rfl; have HB1 := Lib.hid hb; have HX2 := Lib.hid hx2; clear hb hx2) | (go_at_call 119; with_reducible refine (HB.out _).mono ?_; rintro e w2 ⟨rfl, hb⟩; have hx2 := (hb.block w.heap.size (Nat.lt_of_lt_of_le (by simp) HB1.out.size)).trans HX2.out; have c14 := cell_box (i := 14) hx2 rfl rfl; have HB2 := Lib.hid hb; clear hb hx2))
      go_ret
      exact ⟨ret_boolT (by simp), (HAL.out _).trans ((HB1.out.trans (HB2.out.mono HB1.out.size)).mono (by simp))⟩
end Go.Proofs.YtmmhpibkjdlkgaaGreat

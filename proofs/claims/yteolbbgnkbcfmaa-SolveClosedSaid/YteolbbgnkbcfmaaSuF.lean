/- A range over slices.Backward: the law; the walks of the iterator over types and over numbers. -/
import Derived.Test.YteolbbgnkbcfmaaStL
namespace Go.Proofs.Yteolbbgnkbcfmaa
open Go Go.RowKit Go.Shelf
open Tp (T)
attribute [local go_sem] Oper.semAt_some
/-- WHAT THE ITERATOR OWES: n rounds, the last element first, as long as the source lies. -/
def SeqBw (P : Program) (gf : Nat) (lb : Array Value) (n : Nat) (args : Nat → Array Value) (Src : World → Prop) : Prop :=
  ∀ (l : Nat) (J Jx : Nat → World → Prop) (W : World),
    (∀ k W1, J k W1 → Src W1) →
    (∀ k W1, k < n → J k W1 → YieldAt Fence.wide 8 P l (args (n - 1 - k)) W1 fun e W' => (e = .returned (.bool true) ∧ J (k + 1) W') ∨ (e = .returned (.bool false) ∧ Jx (k + 1) W')) →
    J 0 W →
    Calls P gf (#[.func (.yield l) #[] #[]] ++ lb) W fun e W' => (∃ v, e = .returned v) ∧ (J n W' ∨ ∃ k, Jx k W')
/-- HOW THE BODY OF A ROUND MAY BE LEFT. -/
def bwPost (D : Nat) (I : Nat → World → Prop) (Ix : Code → Nat → World → Prop) (k : Nat) (W : World) : Exit → Act → World → Prop
  | .normal, _, W' => (W'.heap[D]? = W.heap[D]? ∧ W'.heap[D + 1]? = W.heap[D + 1]?) ∧ I k W'
  | .ret, _, W' => (W'.heap[D]? = W.heap[D]? ∧ W'.heap[D + 1]? = W.heap[D + 1]?) ∧ Ix .ret k W'
  | .exit id, _, W' => (W'.heap[D]? = W.heap[D]? ∧ W'.heap[D + 1]? = W.heap[D + 1]?) ∧ Ix (.exit id) k W'
  | .goto t, _, W' => (W'.heap[D]? = W.heap[D]? ∧ W'.heap[D + 1]? = W.heap[D + 1]?) ∧ Ix (.goto t) k W'
  | .panic _, _, _ => False
  | .outgrown, _, _ => False
/-- **THE STATEMENT's LAW.** -/
theorem wpIn_range_bw {P : Program} {g : Operand} {ps : Array Tmp} {assign body : Code} {Q : Exit → Act → World → Prop} {a : Act} {w : World}
    {gf : Nat} {lb : Array Value} (hg : a.eval g = .func (.func gf) #[] lb) (eg : ∀ args w, (callFunc gf args).run P w = .ok (.enter gf args) w)
    {n : Nat} {args : Nat → Array Value} {Src : World → Prop} (hseq : SeqBw P gf lb n args Src) (hps : ∀ i, (args i).size = ps.size)
    (I : Nat → World → Prop) (Ix : Code → Nat → World → Prop) (a₁ : Nat → World → Act) (As : Nat → World → World) (hAs : ∀ i W, Turns (fun _ => False) W (As i W)) (hsrc : ∀ k W, I k W → Src W)
    (hI : ∀ k A B, I k A → Turns (fun j => j = w.heap.size ∨ j = w.heap.size + 1) A B → I k B)
    (hIx : ∀ c k A B, Ix c k A → Turns (fun j => j = w.heap.size ∨ j = w.heap.size + 1) A B → Ix c k B)
    (h0 : I 0 w)
    (hassign : ∀ (l : Nat) (i : Nat) (W : World) (K : Act → World → Prop), K (a₁ i W) (As i W) →
      assign.wpIn (Fence.wide.inRound l) 8 P (Exit.then K (fun _ _ _ => False)) { tmps := (ps.zip (args i)).foldl (fun t (p, v) => t.setIfInBounds p v) a.tmps, defers := [] } W)
    (hbody : ∀ (l : Nat) (k : Nat) (W W2 : World), k < n → I k W → w.heap.size + 1 < W.heap.size → Turns (fun j => j = w.heap.size + 1) (As (n - 1 - k) W) W2 → W2.heap.size = (As (n - 1 - k) W).heap.size →
      body.wpIn (Fence.wide.inRound l) 8 P (bwPost w.heap.size I Ix (k + 1) W2) (a₁ (n - 1 - k) W) W2)
    (hdone : ∀ (W : World), I n W → w.heap.size + 1 < W.heap.size → W.heap[w.heap.size]? = some (.deferred (some [])) → Q .normal { a with defers := { target := .collected w.heap.size, args := #[] } :: a.defers } W)
    (hstop : ∀ (c : Code) (k : Nat) (W : World), Ix c k W → w.heap.size + 1 < W.heap.size → W.heap[w.heap.size]? = some (.deferred (some [])) → c.wpIn Fence.wide 9 P Q { a with defers := { target := .collected w.heap.size, args := #[] } :: a.defers } W) :
    (Code.rangeFunc g ps assign body).wpIn Fence.wide 9 P Q a w := by
  refine wpIn_rangeFunc ?_
  intro fn hfn
  rw [show Fence.wide.round = none from rfl]
  obtain ⟨rec, hrec⟩ : ∃ rec : LoopState → Option Code → Loop, rec = fun st pe => { state := st, pending := pe, fn, tmps := a.tmps, params := ps, assign, body, defers := w.heap.size } := ⟨_, rfl⟩
  obtain ⟨W1, hW1⟩ : ∃ W1, (w.alloc (.deferred (some []))).alloc (.loop (rec .ready none)) = W1 := ⟨_, rfl⟩
  have hsz : W1.heap.size = w.heap.size + 2 := by rw [← hW1]; simp
  have hL1 : W1.heap[w.heap.size + 1]? = some (.loop (rec .ready none)) := by
    rw [← hW1]; have := World.alloc_heap_new (w.alloc (.deferred (some []))) (.loop (rec .ready none)); rwa [World.size_alloc] at this
  have hK1 : W1.heap[w.heap.size]? = some (.deferred (some [])) := by
    rw [← hW1]; exact (Below.heap_alloc _ _ _ (by simp)).trans (World.alloc_heap_new w _)
  have hT1 : Turns (fun _ => False) w W1 := by rw [← hW1]; exact (Turns.alloc _ _ _).trans (Turns.alloc _ _ _)
  have hI1 : I 0 W1 := hI 0 w W1 h0 (hT1.mono fun _ _ h => h.elim)
  have put : ∀ (A : World) (o : Obj), Turns (fun k => k = w.heap.size ∨ k = w.heap.size + 1) A (A.putObj (w.heap.size + 1) o) := fun A o => Turns.putObj _ _ _ (.inr rfl)
  refine ⟨w.heap.size + 1, [{ target := .collected w.heap.size, args := #[] }], W1, { target := .fn (.func gf) lb, args := #[.func (.yield (w.heap.size + 1)) #[] #[]] }, W1, gf,
    #[.func (.yield (w.heap.size + 1)) #[] #[]] ++ lb, W1, ?_, ?_, ?_, ?_, fun h => (by cases h), ?_⟩
  · rw [← hW1, hrec]; exact run_enterLoop_outer _ _ _ _ _
  · simp only [resolve, hg]
    simp [go_sem]
  · intro f' _; trivial
  · simp [invoke, go_sem, eg]
  · refine callsIn_wide.2 ?_
    refine (hseq (w.heap.size + 1)
      (fun Y W => I Y W ∧ W.heap[w.heap.size + 1]? = some (.loop (rec .ready none)) ∧ W.heap[w.heap.size]? = some (.deferred (some [])))
      (fun Y W => ∃ c, Ix c Y W ∧ W.heap[w.heap.size + 1]? = some (.loop (rec .done (some c))) ∧ W.heap[w.heap.size]? = some (.deferred (some [])))
      W1 (fun k W h => hsrc k W h.1) ?_ ⟨hI1, hL1, hK1⟩).mono ?_
    · -- ONE ROUND
      rintro k W hkn ⟨hi, hl, hk⟩
      have hy := run_yield (P := P) (args := args (n - 1 - k)) hl (by rw [hrec]; exact hps _)
      rw [hrec] at hy
      refine ⟨fn, _, assign, body, hy, roundIn_of_wpIn hfn (hassign _ (n - 1 - k) W _ ?_)⟩
      have hlW := (Array.getElem?_eq_some_iff.1 hl).1
      have hla := (hAs (n - 1 - k) W).heap hl (fun h => h)
      have hka := (hAs (n - 1 - k) W).heap hk (fun h => h)
      refine ⟨_, run_beginRound hla (by rw [hrec]), ?_⟩
      obtain ⟨W2, hW2⟩ : ∃ W2, (As (n - 1 - k) W).putObj (w.heap.size + 1) (.loop { rec .ready none with state := .busy }) = W2 := ⟨_, rfl⟩
      have hlt' : w.heap.size + 1 < (As (n - 1 - k) W).heap.size := (Array.getElem?_eq_some_iff.1 hla).1
      have hs2 : W2.heap.size = (As (n - 1 - k) W).heap.size := by rw [← hW2]; simp
      have hl2 : W2.heap[w.heap.size + 1]? = some (.loop { rec .ready none with state := .busy }) := by rw [← hW2]; exact World.putObj_heap_same hlt'
      have hk2 : W2.heap[w.heap.size]? = some (.deferred (some [])) := by rw [← hW2]; exact (World.putObj_heap_other (by omega)).trans hka
      have hT2 : Turns (fun j => j = w.heap.size + 1) (As (n - 1 - k) W) W2 := by rw [← hW2]; exact Turns.putObj _ _ _ rfl
      rw [hW2]
      refine wpIn_mono (hbody _ k W W2 hkn hi hlW hT2 hs2) ?_
      have fin : ∀ (jump : Option Code) (W3 : World), (W3.heap[w.heap.size]? = W2.heap[w.heap.size]? ∧ W3.heap[w.heap.size + 1]? = W2.heap[w.heap.size + 1]?) → ∃ W4,
          (Instr.endRound (w.heap.size + 1) jump).run P W3 = .ok (.bool jump.isNone) W4 ∧ W4.heap[w.heap.size + 1]? = some (.loop (rec (if jump.isNone then .ready else .done) jump)) ∧
          W4.heap[w.heap.size]? = some (.deferred (some [])) ∧ ∃ o, W4 = W3.putObj (w.heap.size + 1) o := fun jump W3 hk3 => by
        have hl3 := hk3.2.trans hl2
        have hd3 := hk3.1.trans hk2
        have := run_endRound (P := P) jump hl3
        refine ⟨_, this, ?_, ?_, _, rfl⟩
        · rw [hrec]; exact World.putObj_heap_same (Array.getElem?_eq_some_iff.1 hl3).1
        · exact (World.putObj_heap_other (by omega)).trans hd3
      rintro e a3 W3 hp
      cases e with
      | normal =>
        obtain ⟨hk3, hi3⟩ := hp
        obtain ⟨W4, hr, hl4, hk4, o, rfl⟩ := fin none W3 hk3
        exact ⟨_, _, hr, .inl ⟨rfl, hI _ W3 _ hi3 (put _ _), hl4, hk4⟩⟩
      | ret =>
        obtain ⟨hk3, hi3⟩ := hp
        obtain ⟨W4, hr, hl4, hk4, o, rfl⟩ := fin (some .ret) W3 hk3
        exact ⟨_, _, hr, .inr ⟨rfl, .ret, hIx _ _ W3 _ hi3 (put _ _), hl4, hk4⟩⟩
      | exit id =>
        obtain ⟨hk3, hi3⟩ := hp
        obtain ⟨W4, hr, hl4, hk4, o, rfl⟩ := fin (some (.exit id)) W3 hk3
        exact ⟨_, _, hr, .inr ⟨rfl, .exit id, hIx _ _ W3 _ hi3 (put _ _), hl4, hk4⟩⟩
      | goto t =>
        obtain ⟨hk3, hi3⟩ := hp
        obtain ⟨W4, hr, hl4, hk4, o, rfl⟩ := fin (some (.goto t)) W3 hk3
        exact ⟨_, _, hr, .inr ⟨rfl, .goto t, hIx _ _ W3 _ hi3 (put _ _), hl4, hk4⟩⟩
      | panic ch => exact hp.elim
      | outgrown => exact hp.elim
    · -- BEHIND THE ITERATOR
      rintro e W2 ⟨⟨v, rfl⟩, (⟨hi, hl, hk⟩ | ⟨k, c, hi, hl, hk⟩)⟩
      · have hlt := (Array.getElem?_eq_some_iff.1 hl).1
        exact ⟨none, _, by have := run_endLoop (P := P) hl (by rw [hrec]; simp); rw [hrec] at this; exact this, hdone _ (hI n W2 _ hi (put _ _)) (by rw [World.putObj_size]; exact hlt) ((World.putObj_heap_other (by omega)).trans hk)⟩
      · have hlt := (Array.getElem?_eq_some_iff.1 hl).1
        exact ⟨some c, _, by have := run_endLoop (P := P) hl (by rw [hrec]; simp); rw [hrec] at this; exact this, hstop c k _ (hIx c k W2 _ hi (put _ _)) (by rw [World.putObj_size]; exact hlt) ((World.putObj_heap_other (by omega)).trans hk)⟩
/-- The letters of a row's types. -/
structure TL where
  k : Int
  n : Int
  a : Option Addr
  m : Nat
  c : Nat
def TL.val (x : TL) : Value := .agg #[.int .i64 x.k, .int .i64 x.n, .slice x.a x.m x.c]
def TL.cells (x : TL) : List Value := [.int .i64 x.k, .int .i64 x.n, .slice x.a x.m x.c]
/-- A row of types lies. -/
def TLAt (W : World) (b1 : Nat) (l : List TL) (a : Option Addr) (cap : Nat) : Prop := W.cell? ⟨b1, 0, none⟩ = some (.slice a l.length cap) ∧ ∀ i (h : i < l.length), ∃ b o, a = some ⟨b, o, none⟩ ∧ W.cell? ⟨b, o + i * 3, none⟩ = some (.int .i64 l[i].k) ∧ W.cell? ⟨b, o + i * 3 + 1, none⟩ = some (.int .i64 l[i].n) ∧ W.cell? ⟨b, o + i * 3 + 2, none⟩ = some (.slice l[i].a l[i].m l[i].c)
set_option maxRecDepth 100000 in
set_option maxHeartbeats 4000000 in
theorem backT_seq (b1 : Nat) (l : List TL) (a : Option Addr) (cap : Nat) (hn : l.length ≤ 4000000) :
    SeqBw Try.prog 133 #[.pointer (some ⟨b1, 0, none⟩)] l.length (fun i => #[.int .i64 (i : Int), (l.getD i ⟨0, 0, none, 0, 0⟩).val]) (fun W => TLAt W b1 l a cap) := by
  intro r J Jx W hS hY h0
  obtain ⟨n, hN⟩ : ∃ n, l.length = n := ⟨_, rfl⟩
  have hc := (hS 0 W h0).1
  rw [hN] at hY hc hn ⊢
  have HS := Lib.hid hS; have HY := Lib.hid hY; have HJ := Lib.hid h0; have HNN := Lib.hid hN; have HB := Lib.hid hn
  clear hS hY h0 hN hn
  go_enter Try.func133, Try.ntmps133
  have hw1 : wrap64 ((n : Int) - 1) = (n : Int) - ((0 : Nat) : Int) - 1 := by have := HB.out; unfold wrap64; omega
  go_wp2_with fail
  go_loopg [3] n (fun gk v wr => ∃ k : Nat, k ≤ n ∧ v = .int .i64 ((n : Int) - (k : Int) - 1) ∧ J k wr ∧ gk = n - k)
  case atStart => exact ⟨0, Nat.zero_le _, rfl, HJ.out, rfl⟩
  case round =>
    obtain ⟨k, hkn, rfl, hj, rfl⟩ := hrel
    have HJK := Lib.hid hj
    clear hj
    by_cases hlt : k < n
    · obtain ⟨j, hj⟩ : ∃ j, n - 1 - k = j := ⟨_, rfl⟩
      have e1 : (n : Int) - (k : Int) - 1 = (j : Int) := by omega
      rw [e1]
      have hge : decide ((j : Int) ≥ 0) = true := by simp
      have hjn : j < n := by omega
      obtain ⟨i1, i2⟩ := pt_int hjn
      obtain ⟨cs, hcs⟩ := HS.out k wr HJK.out
      rw [HNN.out] at cs
      have hjl : j < l.length := by rw [HNN.out]; exact hjn
      obtain ⟨b, o, rfl, q0, q1, q2⟩ := hcs j hjl
      have hgd : (l.getD j ⟨0, 0, none, 0, 0⟩).val = .agg #[.int .i64 l[j].k, .int .i64 l[j].n, .slice l[j].a l[j].m l[j].c] := by rw [List.getD_eq_getElem?_getD, List.getElem?_eq_getElem hjl]; rfl
      obtain ⟨x, hx⟩ : ∃ x, l[j] = x := ⟨_, rfl⟩
      rw [hx] at q0 q1 q2 hgd
      obtain ⟨xk, xn, xa, xm, xc⟩ := x
      dsimp only at q0 q1 q2 hgd
      have hy := yield_depth 8 (HY.out k wr hlt HJK.out)
      rw [hj] at hy
      rw [hgd] at hy
      obtain ⟨fn, tmps, assign, body, hyy, hRd⟩ := hy
      have hwn : wrap64 ((j : Int) - 1) = (n : Int) - ((k + 1 : Nat) : Int) - 1 := by have := HB.out; unfold wrap64; omega
      have HWN := Lib.hid hwn; have HCS0 := Lib.hid cs
      go_upto_region 3 with fail
      refine (wpIn_wide (n := 9)).1 ?_
      gi_wp2
      refine hRd.mono ?_
      clear q0 q1 q2 cs
      rintro e w7 (⟨rfl, hj7⟩ | ⟨rfl, hj7⟩)
      · have HJ7 := Lib.hid hj7
        clear hj7
        gi_wp2
        go_wp2_with fail
        go_roundg (n - (k + 1))
        case measure => omega
        case rel => exact ⟨k + 1, hlt, congrArg (Value.int .i64) HWN.out, HJ7.out, rfl⟩
      · have HJ7 := Lib.hid hj7
        clear hj7
        gi_wp2
        go_wp2_with fail
        exact bodyPost_ret (results_none rfl _ _ _) rfl ⟨⟨_, rfl⟩, .inr ⟨_, HJ7.out⟩⟩
    · obtain rfl : k = n := by omega
      have e1 : (k : Int) - (k : Int) - 1 = -1 := by omega
      rw [e1]
      go_wp2_with fail
      go_end0
      exact ⟨⟨_, rfl⟩, .inl HJK.out⟩
/-- A row of numbers lies. -/
def ILAt (W : World) (b1 : Nat) (l : List Int) (a : Option Addr) (cap : Nat) : Prop := W.cell? ⟨b1, 0, none⟩ = some (.slice a l.length cap) ∧ ∀ i (h : i < l.length), ∃ b o, a = some ⟨b, o, none⟩ ∧ W.cell? ⟨b, o + i, none⟩ = some (.int .i64 l[i])
set_option maxRecDepth 100000 in
set_option maxHeartbeats 4000000 in
theorem backI_seq (b1 : Nat) (l : List Int) (a : Option Addr) (cap : Nat) (hn : l.length ≤ 4000000) :
    SeqBw Try.prog 135 #[.pointer (some ⟨b1, 0, none⟩)] l.length (fun i => #[.int .i64 (i : Int), (Value.int .i64 (l.getD i 0))]) (fun W => ILAt W b1 l a cap) := by
  intro r J Jx W hS hY h0
  obtain ⟨n, hN⟩ : ∃ n, l.length = n := ⟨_, rfl⟩
  have hc := (hS 0 W h0).1
  rw [hN] at hY hc hn ⊢
  have HS := Lib.hid hS; have HY := Lib.hid hY; have HJ := Lib.hid h0; have HNN := Lib.hid hN; have HB := Lib.hid hn
  clear hS hY h0 hN hn
  go_enter Try.func135, Try.ntmps135
  have hw1 : wrap64 ((n : Int) - 1) = (n : Int) - ((0 : Nat) : Int) - 1 := by have := HB.out; unfold wrap64; omega
  go_wp2_with fail
  go_loopg [3] n (fun gk v wr => ∃ k : Nat, k ≤ n ∧ v = .int .i64 ((n : Int) - (k : Int) - 1) ∧ J k wr ∧ gk = n - k)
  case atStart => exact ⟨0, Nat.zero_le _, rfl, HJ.out, rfl⟩
  case round =>
    obtain ⟨k, hkn, rfl, hj, rfl⟩ := hrel
    have HJK := Lib.hid hj
    clear hj
    by_cases hlt : k < n
    · obtain ⟨j, hj⟩ : ∃ j, n - 1 - k = j := ⟨_, rfl⟩
      have e1 : (n : Int) - (k : Int) - 1 = (j : Int) := by omega
      rw [e1]
      have hge : decide ((j : Int) ≥ 0) = true := by simp
      have hjn : j < n := by omega
      obtain ⟨i1, i2⟩ := pt_int hjn
      obtain ⟨cs, hcs⟩ := HS.out k wr HJK.out
      rw [HNN.out] at cs
      have hjl : j < l.length := by rw [HNN.out]; exact hjn
      obtain ⟨b, o, rfl, q0⟩ := hcs j hjl
      have hgd : l.getD j 0 = l[j] := by rw [List.getD_eq_getElem?_getD, List.getElem?_eq_getElem hjl]; rfl
      obtain ⟨x, hx⟩ : ∃ x, l[j] = x := ⟨_, rfl⟩
      rw [hx] at q0 hgd
      have hy := yield_depth 8 (HY.out k wr hlt HJK.out)
      rw [hj] at hy
      rw [hgd] at hy
      obtain ⟨fn, tmps, assign, body, hyy, hRd⟩ := hy
      have hwn : wrap64 ((j : Int) - 1) = (n : Int) - ((k + 1 : Nat) : Int) - 1 := by have := HB.out; unfold wrap64; omega
      have HWN := Lib.hid hwn; have HCS0 := Lib.hid cs
      go_upto_region 3 with fail
      refine (wpIn_wide (n := 9)).1 ?_
      gi_wp2
      refine hRd.mono ?_
      clear q0 cs
      rintro e w7 (⟨rfl, hj7⟩ | ⟨rfl, hj7⟩)
      · have HJ7 := Lib.hid hj7
        clear hj7
        gi_wp2
        go_wp2_with fail
        go_roundg (n - (k + 1))
        case measure => omega
        case rel => exact ⟨k + 1, hlt, congrArg (Value.int .i64) HWN.out, HJ7.out, rfl⟩
      · have HJ7 := Lib.hid hj7
        clear hj7
        gi_wp2
        go_wp2_with fail
        exact bodyPost_ret (results_none rfl _ _ _) rfl ⟨⟨_, rfl⟩, .inr ⟨_, HJ7.out⟩⟩
    · obtain rfl : k = n := by omega
      have e1 : (k : Int) - (k : Int) - 1 = -1 := by omega
      rw [e1]
      go_wp2_with fail
      go_end0
      exact ⟨⟨_, rfl⟩, .inl HJK.out⟩
end Go.Proofs.Yteolbbgnkbcfmaa

/- A range over slices.Backward: the law; the walks of the iterator over types and over numbers. Put's loop between two rounds; cuts of rows of numbers. -/
import Derived.Test.YtaaapdfdedknfaaStM
import Derived.Test.YtaaapdfdedknfaaSuG
import Derived.Test.YtaaapdfdedknfaaStR
import Derived.Laws.CopyOwn
namespace Go.Proofs.Ytaaapdfdedknfaa
open Go Go.RowKit Go.Shelf
open Tp (T)
attribute [local go_sem] Oper.semAt_some
/-- WHAT THE ITERATOR OWES: n rounds, the last element first, as long as the source lies. -/
def SeqBw (P : Program) (gf : Nat) (lb : Array Value) (n : Nat) (args : Nat → Array Value) (Src : World → Prop) : Prop :=
  ∀ (l : Nat) (J Jx : Nat → World → Prop) (W : World),
    (∀ k W1, J k W1 → Src W1) →
    (∀ k W1, k < n → J k W1 → YieldAt Fence.wide 8 P l (args (n - 1 - k)) W1 fun e W' => (e = .returned (.bool true) ∧ J (k + 1) W') ∨ (e = .returned (.bool false) ∧ Jx (k + 1) W')) →
    J 0 W →
    Calls P gf (#[.func (.yield l) #[] #[]] ++ lb) W fun e W' => (∃ v, e = .returned v) ∧ (J n W' ∨ ∃ k, Jx k W')
/-- HOW THE BODY OF A ROUND MAY BE LEFT. -/
def bwPost (D : Nat) (I : Nat → World → Prop) (Ix : Code → Nat → World → Prop) (k : Nat) (W : World) : Exit → Act → World → Prop
  | .normal, _, W' => (W'.heap[D]? = W.heap[D]? ∧ W'.heap[D + 1]? = W.heap[D + 1]?) ∧ I k W'
  | .ret, _, W' => (W'.heap[D]? = W.heap[D]? ∧ W'.heap[D + 1]? = W.heap[D + 1]?) ∧ Ix .ret k W'
  | .exit id, _, W' => (W'.heap[D]? = W.heap[D]? ∧ W'.heap[D + 1]? = W.heap[D + 1]?) ∧ Ix (.exit id) k W'
  | .goto t, _, W' => (W'.heap[D]? = W.heap[D]? ∧ W'.heap[D + 1]? = W.heap[D + 1]?) ∧ Ix (.goto t) k W'
  | .panic _, _, _ => False
  | .outgrown, _, _ => False
/-- **THE STATEMENT's LAW.** -/
theorem wpIn_range_bw {P : Program} {g : Operand} {ps : Array Tmp} {assign body : Code} {Q : Exit → Act → World → Prop} {a : Act} {w : World}
    {gf : Nat} {lb : Array Value} (hg : a.eval g = .func (.func gf) #[] lb) (eg : ∀ args w, (callFunc gf args).run P w = .ok (.enter gf args) w)
    {n : Nat} {args : Nat → Array Value} {Src : World → Prop} (hseq : SeqBw P gf lb n args Src) (hps : ∀ i, (args i).size = ps.size)
    (I : Nat → World → Prop) (Ix : Code → Nat → World → Prop) (a₁ : Nat → World → Act) (As : Nat → World → World) (hAs : ∀ i W, Turns (fun _ => False) W (As i W)) (hsrc : ∀ k W, I k W → Src W)
    (hI : ∀ k A B, I k A → Turns (fun j => j = w.heap.size ∨ j = w.heap.size + 1) A B → I k B)
    (hIx : ∀ c k A B, Ix c k A → Turns (fun j => j = w.heap.size ∨ j = w.heap.size + 1) A B → Ix c k B)
    (h0 : I 0 w)
    (hassign : ∀ (l : Nat) (i : Nat) (W : World) (K : Act → World → Prop), K (a₁ i W) (As i W) →
      assign.wpIn (Fence.wide.inRound l) 8 P (Exit.then K (fun _ _ _ => False)) { tmps := (ps.zip (args i)).foldl (fun t (p, v) => t.setIfInBounds p v) a.tmps, defers := [] } W)
    (hbody : ∀ (l : Nat) (k : Nat) (W W2 : World), k < n → I k W → w.heap.size + 1 < W.heap.size → Turns (fun j => j = w.heap.size + 1) (As (n - 1 - k) W) W2 → W2.heap.size = (As (n - 1 - k) W).heap.size →
      body.wpIn (Fence.wide.inRound l) 8 P (bwPost w.heap.size I Ix (k + 1) W2) (a₁ (n - 1 - k) W) W2)
    (hdone : ∀ (W : World), I n W → w.heap.size + 1 < W.heap.size → W.heap[w.heap.size]? = some (.deferred (some [])) → Q .normal { a with defers := { target := .collected w.heap.size, args := #[] } :: a.defers } W)
    (hstop : ∀ (c : Code) (k : Nat) (W : World), Ix c k W → w.heap.size + 1 < W.heap.size → W.heap[w.heap.size]? = some (.deferred (some [])) → c.wpIn Fence.wide 9 P Q { a with defers := { target := .collected w.heap.size, args := #[] } :: a.defers } W) :
    (Code.rangeFunc g ps assign body).wpIn Fence.wide 9 P Q a w := by
  refine wpIn_rangeFunc ?_
  intro fn hfn
  rw [show Fence.wide.round = none from rfl]
  obtain ⟨rec, hrec⟩ : ∃ rec : LoopState → Option Code → Loop, rec = fun st pe => { state := st, pending := pe, fn, tmps := a.tmps, params := ps, assign, body, defers := w.heap.size } := ⟨_, rfl⟩
  obtain ⟨W1, hW1⟩ : ∃ W1, (w.alloc (.deferred (some []))).alloc (.loop (rec .ready none)) = W1 := ⟨_, rfl⟩
  have hsz : W1.heap.size = w.heap.size + 2 := by rw [← hW1]; simp
  have hL1 : W1.heap[w.heap.size + 1]? = some (.loop (rec .ready none)) := by
    rw [← hW1]; have := World.alloc_heap_new (w.alloc (.deferred (some []))) (.loop (rec .ready none)); rwa [World.size_alloc] at this
  have hK1 : W1.heap[w.heap.size]? = some (.deferred (some [])) := by
    rw [← hW1]; exact (Below.heap_alloc _ _ _ (by simp)).trans (World.alloc_heap_new w _)
  have hT1 : Turns (fun _ => False) w W1 := by rw [← hW1]; exact (Turns.alloc _ _ _).trans (Turns.alloc _ _ _)
  have hI1 : I 0 W1 := hI 0 w W1 h0 (hT1.mono fun _ _ h => h.elim)
  have put : ∀ (A : World) (o : Obj), Turns (fun k => k = w.heap.size ∨ k = w.heap.size + 1) A (A.putObj (w.heap.size + 1) o) := fun A o => Turns.putObj _ _ _ (.inr rfl)
  refine ⟨w.heap.size + 1, [{ target := .collected w.heap.size, args := #[] }], W1, { target := .fn (.func gf) lb, args := #[.func (.yield (w.heap.size + 1)) #[] #[]] }, W1, gf,
    #[.func (.yield (w.heap.size + 1)) #[] #[]] ++ lb, W1, ?_, ?_, ?_, ?_, fun h => (by cases h), ?_⟩
  · rw [← hW1, hrec]; exact run_enterLoop_outer _ _ _ _ _
  · simp only [resolve, hg]
    simp [go_sem]
  · intro f' _; trivial
  · simp [invoke, go_sem, eg]
  · refine callsIn_wide.2 ?_
    refine (hseq (w.heap.size + 1)
      (fun Y W => I Y W ∧ W.heap[w.heap.size + 1]? = some (.loop (rec .ready none)) ∧ W.heap[w.heap.size]? = some (.deferred (some [])))
      (fun Y W => ∃ c, Ix c Y W ∧ W.heap[w.heap.size + 1]? = some (.loop (rec .done (some c))) ∧ W.heap[w.heap.size]? = some (.deferred (some [])))
      W1 (fun k W h => hsrc k W h.1) ?_ ⟨hI1, hL1, hK1⟩).mono ?_
    · -- ONE ROUND
      rintro k W hkn ⟨hi, hl, hk⟩
      have hy := run_yield (P := P) (args := args (n - 1 - k)) hl (by rw [hrec]; exact hps _)
      rw [hrec] at hy
      refine ⟨fn, _, assign, body, hy, roundIn_of_wpIn hfn (hassign _ (n - 1 - k) W _ ?_)⟩
      have hlW := (Array.getElem?_eq_some_iff.1 hl).1
      have hla := (hAs (n - 1 - k) W).heap hl (fun h => h)
      have hka := (hAs (n - 1 - k) W).heap hk (fun h => h)
      refine ⟨_, run_beginRound hla (by rw [hrec]), ?_⟩
      obtain ⟨W2, hW2⟩ : ∃ W2, (As (n - 1 - k) W).putObj (w.heap.size + 1) (.loop { rec .ready none with state := .busy }) = W2 := ⟨_, rfl⟩
      have hlt' : w.heap.size + 1 < (As (n - 1 - k) W).heap.size := (Array.getElem?_eq_some_iff.1 hla).1
      have hs2 : W2.heap.size = (As (n - 1 - k) W).heap.size := by rw [← hW2]; simp
      have hl2 : W2.heap[w.heap.size + 1]? = some (.loop { rec .ready none with state := .busy }) := by rw [← hW2]; exact World.putObj_heap_same hlt'
      have hk2 : W2.heap[w.heap.size]? = some (.deferred (some [])) := by rw [← hW2]; exact (World.putObj_heap_other (by omega)).trans hka
      have hT2 : Turns (fun j => j = w.heap.size + 1) (As (n - 1 - k) W) W2 := by rw [← hW2]; exact Turns.putObj _ _ _ rfl
      rw [hW2]
      refine wpIn_mono (hbody _ k W W2 hkn hi hlW hT2 hs2) ?_
      have fin : ∀ (jump : Option Code) (W3 : World), (W3.heap[w.heap.size]? = W2.heap[w.heap.size]? ∧ W3.heap[w.heap.size + 1]? = W2.heap[w.heap.size + 1]?) → ∃ W4,
          (Instr.endRound (w.heap.size + 1) jump).run P W3 = .ok (.bool jump.isNone) W4 ∧ W4.heap[w.heap.size + 1]? = some (.loop (rec (if jump.isNone then .ready else .done) jump)) ∧
          W4.heap[w.heap.size]? = some (.deferred (some [])) ∧ ∃ o, W4 = W3.putObj (w.heap.size + 1) o := fun jump W3 hk3 => by
        have hl3 := hk3.2.trans hl2
        have hd3 := hk3.1.trans hk2
        have := run_endRound (P := P) jump hl3
        refine ⟨_, this, ?_, ?_, _, rfl⟩
        · rw [hrec]; exact World.putObj_heap_same (Array.getElem?_eq_some_iff.1 hl3).1
        · exact (World.putObj_heap_other (by omega)).trans hd3
      rintro e a3 W3 hp
      cases e with
      | normal =>
        obtain ⟨hk3, hi3⟩ := hp
        obtain ⟨W4, hr, hl4, hk4, o, rfl⟩ := fin none W3 hk3
        exact ⟨_, _, hr, .inl ⟨rfl, hI _ W3 _ hi3 (put _ _), hl4, hk4⟩⟩
      | ret =>
        obtain ⟨hk3, hi3⟩ := hp
        obtain ⟨W4, hr, hl4, hk4, o, rfl⟩ := fin (some .ret) W3 hk3
        exact ⟨_, _, hr, .inr ⟨rfl, .ret, hIx _ _ W3 _ hi3 (put _ _), hl4, hk4⟩⟩
      | exit id =>
        obtain ⟨hk3, hi3⟩ := hp
        obtain ⟨W4, hr, hl4, hk4, o, rfl⟩ := fin (some (.exit id)) W3 hk3
        exact ⟨_, _, hr, .inr ⟨rfl, .exit id, hIx _ _ W3 _ hi3 (put _ _), hl4, hk4⟩⟩
      | goto t =>
        obtain ⟨hk3, hi3⟩ := hp
        obtain ⟨W4, hr, hl4, hk4, o, rfl⟩ := fin (some (.goto t)) W3 hk3
        exact ⟨_, _, hr, .inr ⟨rfl, .goto t, hIx _ _ W3 _ hi3 (put _ _), hl4, hk4⟩⟩
      | panic ch => exact hp.elim
      | outgrown => exact hp.elim
    · -- BEHIND THE ITERATOR
      rintro e W2 ⟨⟨v, rfl⟩, (⟨hi, hl, hk⟩ | ⟨k, c, hi, hl, hk⟩)⟩
      · have hlt := (Array.getElem?_eq_some_iff.1 hl).1
        exact ⟨none, _, by have := run_endLoop (P := P) hl (by rw [hrec]; simp); rw [hrec] at this; exact this, hdone _ (hI n W2 _ hi (put _ _)) (by rw [World.putObj_size]; exact hlt) ((World.putObj_heap_other (by omega)).trans hk)⟩
      · have hlt := (Array.getElem?_eq_some_iff.1 hl).1
        exact ⟨some c, _, by have := run_endLoop (P := P) hl (by rw [hrec]; simp); rw [hrec] at this; exact this, hstop c k _ (hIx c k W2 _ hi (put _ _)) (by rw [World.putObj_size]; exact hlt) ((World.putObj_heap_other (by omega)).trans hk)⟩
/-- The letters of a row's types. -/
structure TL where
  k : Int
  n : Int
  a : Option Addr
  m : Nat
  c : Nat
def TL.val (x : TL) : Value := .agg #[.int .i64 x.k, .int .i64 x.n, .slice x.a x.m x.c]
def TL.cells (x : TL) : List Value := [.int .i64 x.k, .int .i64 x.n, .slice x.a x.m x.c]
/-- A row of types lies. -/
def TLAt (W : World) (b1 : Nat) (l : List TL) (a : Option Addr) (cap : Nat) : Prop := W.cell? ⟨b1, 0, none⟩ = some (.slice a l.length cap) ∧ ∀ i (h : i < l.length), ∃ b o, a = some ⟨b, o, none⟩ ∧ W.cell? ⟨b, o + i * 3, none⟩ = some (.int .i64 l[i].k) ∧ W.cell? ⟨b, o + i * 3 + 1, none⟩ = some (.int .i64 l[i].n) ∧ W.cell? ⟨b, o + i * 3 + 2, none⟩ = some (.slice l[i].a l[i].m l[i].c)
set_option maxRecDepth 100000 in
set_option maxHeartbeats 4000000 in
theorem backT_seq (b1 : Nat) (l : List TL) (a : Option Addr) (cap : Nat) (hn : l.length ≤ 4000000) :
    SeqBw Try.prog 128 #[.pointer (some ⟨b1, 0, none⟩)] l.length (fun i => #[.int .i64 (i : Int), (l.getD i ⟨0, 0, none, 0, 0⟩).val]) (fun W => TLAt W b1 l a cap) := by
  intro r J Jx W hS hY h0
  obtain ⟨n, hN⟩ : ∃ n, l.length = n := ⟨_, rfl⟩
  have hc := (hS 0 W h0).1
  rw [hN] at hY hc hn ⊢
  have HS := Lib.hid hS; have HY := Lib.hid hY; have HJ := Lib.hid h0; have HNN := Lib.hid hN; have HB := Lib.hid hn
  clear hS hY h0 hN hn
  go_enter Try.func128, Try.ntmps128
  have hw1 : wrap64 ((n : Int) - 1) = (n : Int) - ((0 : Nat) : Int) - 1 := by have := HB.out; unfold wrap64; omega
  go_wp2_with fail
  go_loopg [3] n (fun gk v wr => ∃ k : Nat, k ≤ n ∧ v = .int .i64 ((n : Int) - (k : Int) - 1) ∧ J k wr ∧ gk = n - k)
  case atStart => exact ⟨0, Nat.zero_le _, rfl, HJ.out, rfl⟩
  case round =>
    obtain ⟨k, hkn, rfl, hj, rfl⟩ := hrel
    have HJK := Lib.hid hj
    clear hj
    by_cases hlt : k < n
    · obtain ⟨j, hj⟩ : ∃ j, n - 1 - k = j := ⟨_, rfl⟩
      have e1 : (n : Int) - (k : Int) - 1 = (j : Int) := by omega
      rw [e1]
      have hge : decide ((j : Int) ≥ 0) = true := by simp
      have hjn : j < n := by omega
      obtain ⟨i1, i2⟩ := pt_int hjn
      obtain ⟨cs, hcs⟩ := HS.out k wr HJK.out
      rw [HNN.out] at cs
      have hjl : j < l.length := by rw [HNN.out]; exact hjn
      obtain ⟨b, o, rfl, q0, q1, q2⟩ := hcs j hjl
      have hgd : (l.getD j ⟨0, 0, none, 0, 0⟩).val = .agg #[.int .i64 l[j].k, .int .i64 l[j].n, .slice l[j].a l[j].m l[j].c] := by rw [List.getD_eq_getElem?_getD, List.getElem?_eq_getElem hjl]; rfl
      obtain ⟨x, hx⟩ : ∃ x, l[j] = x := ⟨_, rfl⟩
      rw [hx] at q0 q1 q2 hgd
      obtain ⟨xk, xn, xa, xm, xc⟩ := x
      dsimp only at q0 q1 q2 hgd
      have hy := yield_depth 8 (HY.out k wr hlt HJK.out)
      rw [hj] at hy
      rw [hgd] at hy
      obtain ⟨fn, tmps, assign, body, hyy, hRd⟩ := hy
      have hwn : wrap64 ((j : Int) - 1) = (n : Int) - ((k + 1 : Nat) : Int) - 1 := by have := HB.out; unfold wrap64; omega
      have HWN := Lib.hid hwn; have HCS0 := Lib.hid cs
      go_upto_region 3 with fail
      refine (wpIn_wide (n := 9)).1 ?_
      gi_wp2
      refine hRd.mono ?_
      clear q0 q1 q2 cs
      rintro e w7 (⟨rfl, hj7⟩ | ⟨rfl, hj7⟩)
      · have HJ7 := Lib.hid hj7
        clear hj7
        gi_wp2
        go_wp2_with fail
        go_roundg (n - (k + 1))
        case measure => omega
        case rel => exact ⟨k + 1, hlt, congrArg (Value.int .i64) HWN.out, HJ7.out, rfl⟩
      · have HJ7 := Lib.hid hj7
        clear hj7
        gi_wp2
        go_wp2_with fail
        exact bodyPost_ret (results_none rfl _ _ _) rfl ⟨⟨_, rfl⟩, .inr ⟨_, HJ7.out⟩⟩
    · obtain rfl : k = n := by omega
      have e1 : (k : Int) - (k : Int) - 1 = -1 := by omega
      rw [e1]
      go_wp2_with fail
      go_end0
      exact ⟨⟨_, rfl⟩, .inl HJK.out⟩
/-- A row of numbers lies. -/
def ILAt (W : World) (b1 : Nat) (l : List Int) (a : Option Addr) (cap : Nat) : Prop := W.cell? ⟨b1, 0, none⟩ = some (.slice a l.length cap) ∧ ∀ i (h : i < l.length), ∃ b o, a = some ⟨b, o, none⟩ ∧ W.cell? ⟨b, o + i, none⟩ = some (.int .i64 l[i])
set_option maxRecDepth 100000 in
set_option maxHeartbeats 4000000 in
theorem backI_seq (b1 : Nat) (l : List Int) (a : Option Addr) (cap : Nat) (hn : l.length ≤ 4000000) :
    SeqBw Try.prog 140 #[.pointer (some ⟨b1, 0, none⟩)] l.length (fun i => #[.int .i64 (i : Int), (Value.int .i64 (l.getD i 0))]) (fun W => ILAt W b1 l a cap) := by
  intro r J Jx W hS hY h0
  obtain ⟨n, hN⟩ : ∃ n, l.length = n := ⟨_, rfl⟩
  have hc := (hS 0 W h0).1
  rw [hN] at hY hc hn ⊢
  have HS := Lib.hid hS; have HY := Lib.hid hY; have HJ := Lib.hid h0; have HNN := Lib.hid hN; have HB := Lib.hid hn
  clear hS hY h0 hN hn
  go_enter Try.func140, Try.ntmps140
  have hw1 : wrap64 ((n : Int) - 1) = (n : Int) - ((0 : Nat) : Int) - 1 := by have := HB.out; unfold wrap64; omega
  go_wp2_with fail
  go_loopg [3] n (fun gk v wr => ∃ k : Nat, k ≤ n ∧ v = .int .i64 ((n : Int) - (k : Int) - 1) ∧ J k wr ∧ gk = n - k)
  case atStart => exact ⟨0, Nat.zero_le _, rfl, HJ.out, rfl⟩
  case round =>
    obtain ⟨k, hkn, rfl, hj, rfl⟩ := hrel
    have HJK := Lib.hid hj
    clear hj
    by_cases hlt : k < n
    · obtain ⟨j, hj⟩ : ∃ j, n - 1 - k = j := ⟨_, rfl⟩
      have e1 : (n : Int) - (k : Int) - 1 = (j : Int) := by omega
      rw [e1]
      have hge : decide ((j : Int) ≥ 0) = true := by simp
      have hjn : j < n := by omega
      obtain ⟨i1, i2⟩ := pt_int hjn
      obtain ⟨cs, hcs⟩ := HS.out k wr HJK.out
      rw [HNN.out] at cs
      have hjl : j < l.length := by rw [HNN.out]; exact hjn
      obtain ⟨b, o, rfl, q0⟩ := hcs j hjl
      have hgd : l.getD j 0 = l[j] := by rw [List.getD_eq_getElem?_getD, List.getElem?_eq_getElem hjl]; rfl
      obtain ⟨x, hx⟩ : ∃ x, l[j] = x := ⟨_, rfl⟩
      rw [hx] at q0 hgd
      have hy := yield_depth 8 (HY.out k wr hlt HJK.out)
      rw [hj] at hy
      rw [hgd] at hy
      obtain ⟨fn, tmps, assign, body, hyy, hRd⟩ := hy
      have hwn : wrap64 ((j : Int) - 1) = (n : Int) - ((k + 1 : Nat) : Int) - 1 := by have := HB.out; unfold wrap64; omega
      have HWN := Lib.hid hwn; have HCS0 := Lib.hid cs
      go_upto_region 3 with fail
      refine (wpIn_wide (n := 9)).1 ?_
      gi_wp2
      refine hRd.mono ?_
      clear q0 cs
      rintro e w7 (⟨rfl, hj7⟩ | ⟨rfl, hj7⟩)
      · have HJ7 := Lib.hid hj7
        clear hj7
        gi_wp2
        go_wp2_with fail
        go_roundg (n - (k + 1))
        case measure => omega
        case rel => exact ⟨k + 1, hlt, congrArg (Value.int .i64) HWN.out, HJ7.out, rfl⟩
      · have HJ7 := Lib.hid hj7
        clear hj7
        gi_wp2
        go_wp2_with fail
        exact bodyPost_ret (results_none rfl _ _ _) rfl ⟨⟨_, rfl⟩, .inr ⟨_, HJ7.out⟩⟩
    · obtain rfl : k = n := by omega
      have e1 : (k : Int) - (k : Int) - 1 = -1 := by omega
      rw [e1]
      go_wp2_with fail
      go_end0
      exact ⟨⟨_, rfl⟩, .inl HJK.out⟩
end Go.Proofs.Ytaaapdfdedknfaa
namespace Go.Proofs.Ytaaapdfdedknfaa
open Go Go.RowKit
open Tp (T)
open Sg (Of Rt Den Dens Alk Mkd trav travs rootOf kidsOf)
theorem elem_in : Try.prog.underlying 27 = some (.slice (Try.prog.elem 27)) := by kernel_rfl
theorem size_in (w : World) : (sizeOf (Try.prog.elem 27)).run Try.prog w = .ok 1 w := by kernel_rfl
theorem int_pop (a : Option Addr) (n cap k : Nat) (hk : k ≤ n) (hn : n ≤ cap) (w' : World) :
    (Instr.slice 27 (.slice a n cap) none (some (.int .i64 (k : Int))) none).run Try.prog w' = .ok (.slice a k cap) w' := by
  rw [run_slice_h w' _ _ n cap elem_in .i64 (k : Int) (by omega) (by omega), size_in]
  cases a with
  | none => simp [Result.andThen, sliced]
  | some b => 
    obtain ⟨b, o, sp⟩ := b
    simp [Result.andThen, sliced, Addr.add]
theorem int_from (b o n cap k : Nat) (hk : k < n) (hn : n ≤ cap) (w' : World) :
    (Instr.slice 27 (.slice (some ⟨b, o, none⟩) n cap) (some (.int .i64 (k : Int))) none none).run Try.prog w' = .ok (.slice (some ⟨b, o + k, none⟩) (n - k) (cap - k)) w' := by
  rw [run_slice_l w' 27 (some ⟨b, o, none⟩) n cap elem_in .i64 (k : Int) (by omega) (by omega), size_in]
  simp [Result.andThen, sliced, add_flat]
  omega
theorem arr_all (b o : Nat) (w : World) : (Instr.sliceAt 90 (.pointer (some ⟨b, o, none⟩)) none none none).run Try.prog w = .ok (.slice (some ⟨b, o, none⟩) 2 2) w := by
  have hal : Try.prog.arrayLen 90 = 2 := by kernel_rfl
  rw [run_sliceAt_array_all w 90 ⟨b, o, none⟩ (by kernel_rfl), hal]
  have hsz : (sizeOf (Try.prog.elem 90)).run Try.prog w = .ok 1 w := by kernel_rfl
  rw [hsz]
  simp [Result.andThen, slicedAt, add_flat]
mutual
theorem post_ok : ∀ (t : T), Tp.right t = true → Tp.without 6 t = true → ∀ x ∈ post t, Tp.right x = true ∧ Tp.without 6 x = true
  | .mk k n l, hr, hw, x, hx => by
    rw [post] at hx
    rcases List.mem_append.1 hx with hx | hx
    · obtain ⟨h1, h2, _⟩ := Tp.right_node hr
      have hw2 : k ≠ 6 ∧ Tp.withouts 6 l = true := by simpa [Tp.without] using hw
      exact posts_ok l h2 hw2.2 x hx
    · rw [List.mem_singleton.1 hx]; exact ⟨hr, hw⟩
theorem posts_ok : ∀ (l : List T), Tp.rights l = true → Tp.withouts 6 l = true → ∀ x ∈ posts l, Tp.right x = true ∧ Tp.without 6 x = true
  | [], _, _, x, hx => by rw [posts] at hx; cases hx
  | t :: r, hr, hw, x, hx => by
    rw [posts] at hx
    obtain ⟨r1, r2⟩ := rights_split hr
    obtain ⟨w1, w2⟩ := withouts_split hw
    rcases List.mem_append.1 hx with hx | hx
    · exact post_ok t r1 w1 x hx
    · exact posts_ok r r2 w2 x hx
end
theorem post_len (t : T) : (post t).length = Tp.size t := by rw [← bw_post, List.length_reverse, bw_len]
theorem post_at {t : T} {D : List Ke} (h : D.map Ke.t = bw t) {k : Nat} (hk2 : k < (post t).length) (hi : D.length - 1 - k < D.length) : (post t)[k] = (D[D.length - 1 - k]).t := by
  have e : post t = (D.map Ke.t).reverse := by rw [h, bw_post]
  have : ∀ (l : List T) (he : l = (D.map Ke.t).reverse) (hl : k < l.length), l[k] = (D[D.length - 1 - k]).t := fun l he hl => by
    subst he
    rw [List.getElem_reverse]
    simp [List.length_map]
  exact this _ e hk2
/-- The letters of an entry. -/
def tlOf (e : Ke) : TL := ⟨e.t.kind, e.t.num, e.a, e.t.kids.length, e.cap⟩
theorem tl_at {W : World} {B b1 : Nat} {D : List Ke} {va : Option Addr} {vc : Nat} (hown : W.ownsRow B 26 3 (.slice va D.length vc) D.length (rowCells D)) (hb : W.cell? ⟨b1, 0, none⟩ = some (.slice va D.length vc)) : TLAt W b1 (D.map tlOf) va vc := by
  refine ⟨by rw [List.length_map]; exact hb, fun i hi => ?_⟩
  have hi' : i < D.length := by simpa using hi
  rcases hown.2 with ⟨h1, h2⟩ | ⟨g, cap, cur, h1, h2, h3, _⟩
  · omega
  · injection h1 with q1 q2 q3
    subst q1
    have hc := hown.cells (g := g) rfl
    have k : ∀ j, j < 3 → ∀ u, (keCells D[i])[j]? = some u → W.cell? ⟨g, i * 3 + j, none⟩ = some u := fun j hj u hu => by
      have := hc (i * 3 + j) u (by rw [rowCells_at D i hi' j hj]; exact hu)
      rwa [add_flat, Nat.zero_add] at this
    have e : (D.map tlOf)[i] = tlOf D[i] := by simp
    rw [e]
    exact ⟨g, 0, rfl, by rw [Nat.zero_add]; exact k 0 (by omega) _ rfl, by rw [Nat.zero_add]; exact k 1 (by omega) _ rfl, by rw [Nat.zero_add]; exact k 2 (by omega) _ rfl⟩
/-- A row of numbers lies in another block than the store's nodes. -/
theorem open_far {B B' s g cap m : Nat} {L C K : Int} {W : World} {H : List SNd} {ov : Value} {xs : List Value} (h : W.ownsRow B' 3 1 ov m xs) (hs : SV B s g cap L C K W H) : ov.ownBlock ≠ some g := fun e => by
  obtain ⟨G, _, hown⟩ := hs.row
  rcases h.2 with ⟨h1, _⟩ | ⟨z, cap', cur, h1, _, h3, _⟩
  · rw [h1] at e; cases e
  · rw [h1] at e
    injection e with e
    dsimp only at e
    subst e
    rcases hown.2 with ⟨q1, _⟩ | ⟨z', cap2, cur2, q1, _, q3, _⟩
    · cases q1
    · injection q1 with q1
      injection q1 with q1
      injection q1 with q1
      subst q1
      rw [h3] at q3
      injection q3 with q3
      injection q3 with _ q3
      exact absurd q3 (by decide)
theorem own_takeN {w : World} {base n k : Nat} {a : Option Addr} {cap : Nat} {xs : List Value} {e : TypeId} (h : w.ownsRow base e 1 (.slice a n cap) n xs) (hk : k ≤ n) : w.ownsRow base e 1 (.slice a k cap) k (xs.take k) := by
  obtain ⟨h1, h2 | ⟨g', cap', cur, h3, h4, h5, h6, h7, h8, h9⟩⟩ := h
  · obtain ⟨h2, h2'⟩ := h2
    injection h2 with q1 q2 q3
    subst q1 q2 q3
    obtain rfl : k = 0 := by omega
    exact ⟨by simp, .inl ⟨rfl, rfl⟩⟩
  · injection h3 with e1 e2 e3
    subst e1 e3
    refine ⟨by rw [List.length_take, h1]; omega, .inr ⟨g', cap, cur, rfl, h4, h5, by omega, h7, h8, ?_⟩⟩
    rw [← h9, List.take_take, Nat.mul_one, Nat.mul_one, Nat.min_eq_left hk]
/-- Between two rounds of Put's loop: k nodes are done. -/
structure PtJ (B s g : Nat) (L C K : Int) (H : List SNd) (t : T) (w : World) (b8 : Nat) (Ls : List TL) (va : Option Addr) (vc : Nat) (D : List Ke) (k : Nat) (S : List SNd × List Nat) (g' cap' : Nat) (oa : Option Addr) (oc : Nat) (W : World) : Prop where
  at_ : ((post t).take k).foldlM pst (H, []) = some S
  sv : SV B s g' cap' L (C + ((S.1.length : Int) - (H.length : Int))) K W S.1
  gg : g' = g ∨ b8 + 3 < g'
  box : W.heap[b8]? = some (.cells #[.slice oa S.2.length oc] 27)
  own : W.ownsRow (b8 + 4) 3 1 (.slice oa S.2.length oc) S.2.length (natRow S.2)
  ptr : W.heap[w.heap.size]? = some (.cells #[.pointer (some ⟨s, 0, none⟩)] 30)
  src : W.heap[b8 + 1]? = some (.cells #[.slice va D.length vc] 24)
  row : W.ownsRow w.heap.size 26 3 (.slice va D.length vc) D.length (rowCells D)
  low : ∀ z, (Value.slice va D.length vc).ownBlock = some z → z < b8
  kp : Kp w.heap.size (fun k => k = s ∨ k = g) w W
  len : S.1.length ≤ H.length + k ∧ S.2.length ≤ k ∧ H.length ≤ S.1.length
theorem leaf_of {u : T} (hr : Tp.right u = true) (hw : Tp.without 6 u = true) (h : u.kids = []) : 1 ≤ u.kind ∧ u.kind ≤ 5 := by
  cases u with
  | mk k n l =>
    have hl : l = [] := h
    subst hl
    obtain ⟨h1, _⟩ := Tp.right_node hr
    exact leaf_kind h1 (by simp [Tp.without] at hw; exact hw.1)
theorem node_of {u : T} (hr : Tp.right u = true) : u.kids.length = ar u.kind := by
  cases u with
  | mk k n l =>
    obtain ⟨h1, _⟩ := Tp.right_node hr
    exact (ar_arity h1).symm
theorem own_cap {w : World} {B n cap : Nat} {a : Option Addr} {e : TypeId} {sz : Nat} {xs : List Value} (h : w.ownsRow B e sz (.slice a n cap) n xs) : n ≤ cap := by
  rcases h.2 with ⟨h1, h2⟩ | ⟨g, c, cur, h1, _, _, h4, _⟩
  · omega
  · injection h1 with _ _ q; rw [q]; exact h4
theorem splice_kids (xk : Int) : ∀ ks : List Nat, 0 < ks.length → ks.length ≤ 2 → splice [Value.int .i64 xk, .int .i64 0, .int .i64 0, .int .i64 0, .int .i64 0, .int .i64 0] 2 (natRow ks) = [Value.int .i64 xk, .int .i64 0, .int .i64 ((ks.getD 0 0 : Nat) : Int), .int .i64 ((ks.getD 1 0 : Nat) : Int), .int .i64 0, .int .i64 0]
  | [], h, _ => by simp at h
  | [x], _, _ => by simp [splice, natRow]
  | [x, y], _, _ => by simp [splice, natRow]
  | _ :: _ :: _ :: _, _, h => by simp at h
theorem natRow_one (l : List Nat) : ∀ u ∈ natRow l, u.oneCell' = true := fun u hu => by
  unfold natRow at hu
  obtain ⟨n, _, rfl⟩ := List.mem_map.1 hu
  rfl
end Go.Proofs.Ytaaapdfdedknfaa

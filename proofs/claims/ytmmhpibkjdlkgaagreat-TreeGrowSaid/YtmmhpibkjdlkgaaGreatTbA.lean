/- tree.binds: what it hands back; the iterator's contract where no pattern binds. tree.binds' iterator where one name is bound. tree.binds' iterator where two names are bound. -/
import Derived.Test.YtmmhpibkjdlkgaaGreatTnR
import Derived.Test.YtmmhpibkjdlkgaaGreatTeR
import Derived.Sort.QuietIn
namespace Go.Proofs.YtmmhpibkjdlkgaaGreat
open Go Go.RowKit Go.Shelf
open Ex (E)

attribute [local go_sem] Oper.semAt_some

/-- The names that an expression binds in its kid k. -/
def bindsL (e : E) (k : Int) : List (List UInt8) :=
  if e.kind = 12 ∧ k = 0 then [e.nm, e.ar] else if (e.kind = 9 ∧ k = 0) ∨ ((e.kind = 11 ∨ e.kind = 12) ∧ k = 1) then [e.nm] else
    if e.kind = 14 ∧ 1 ≤ k then (match e.pats[(k - 1).toNat]? with | some p => (Tr.pre p 1).flatMap (fun y => if y.1.kind = 2 then [y.1.nm] else []) | none => []) else []
theorem binds_any (p : Value) (hp : ∃ a, p = .pointer a) (k : Int) (w : World) :
    Calls Tryz.prog 68 #[p, .int .i64 k] w fun e w' => e = .returned (.func (.func 101) #[] #[.pointer (some ⟨w.heap.size, 0, none⟩), .pointer (some ⟨w.heap.size + 1, 0, none⟩)]) ∧ w' = (w.alloc (.cells #[p] 68)).alloc (.cells #[.int .i64 k] 3) := by
  obtain ⟨a, rfl⟩ := hp
  go_enter Tryz.func68, Tryz.ntmps68
  go_wp2
  go_ret
  exact ⟨rfl, rfl⟩
theorem neI {x y : Int} (h : x ≠ y) : (x == y) = false := by simpa using h
set_option maxRecDepth 100000 in
set_option maxHeartbeats 4000000 in
/-- It binds nothing there. -/
theorem binds_none (Fr : Nat → Prop) (Be Bk b o n : Nat) (k : Int) (e : E) (w : World) (c0 : w.cell? ⟨Be, 0, none⟩ = some (.pointer (some ⟨b, o, none⟩))) (c1 : w.cell? ⟨Bk, 0, none⟩ = some (.int .i64 k)) (hn : ENode (LT n) w e b o) (hb : b < n) (hnw : n ≤ w.heap.size)
    (h14 : ¬ (e.kind = 14 ∧ 1 ≤ k ∧ k ≤ e.pats.length)) (h12 : ¬ (e.kind = 12 ∧ k = 0)) (h9 : ¬ ((e.kind = 9 ∧ k = 0) ∨ ((e.kind = 11 ∨ e.kind = 12) ∧ k = 1))) :
    SeqAt Tryz.prog 101 #[.pointer (some ⟨Be, 0, none⟩), .pointer (some ⟨Bk, 0, none⟩)] (fun s : List UInt8 => #[.string ⟨s.toArray⟩]) (fun xs => xs = []) (fun pre x => ∃ rest, pre ++ x :: rest = []) (fun _ => False) [] (fun _ _ _ => True) Fr w := fun l J Jx ok W hW hJ hJx hO hx0 hnx hY h0 => by
  have k0 := (World.cell?_of_block (a := ⟨Be, 0, none⟩) (hW.block Be (cell_lt c0))).trans c0
  have k1 := (World.cell?_of_block (a := ⟨Bk, 0, none⟩) (hW.block Bk (cell_lt c1))).trans c1
  have e0 := (World.cell?_of_block (a := ⟨b, o, none⟩) (hW.block b (Nat.lt_of_lt_of_le hb hnw))).trans hn.kidsAt.1.c0
  obtain ⟨pa, pc, ep, -, -, -⟩ := hn.kidsAt.1.pats
  have e14 := (World.cell?_of_block (a := ⟨b, o + 14, none⟩) (hW.block b (Nat.lt_of_lt_of_le hb hnw))).trans ep
  obtain ⟨np, hnp⟩ : ∃ np, e.pats.length = np := ⟨_, rfl⟩
  rw [hnp] at e14 h14
  have hBe : Be < W.heap.size := Nat.lt_of_lt_of_le (cell_lt c0) hW.size
  have hBk : Bk < W.heap.size := Nat.lt_of_lt_of_le (cell_lt c1) hW.size
  have hbW : b < W.heap.size := Nat.lt_of_lt_of_le (Nat.lt_of_lt_of_le hb hnw) hW.size
  obtain ⟨kd, hkd⟩ : ∃ kd, e.kind = kd := ⟨_, rfl⟩
  rw [hkd] at e0 h14 h12 h9
  have HJ := Lib.hid hJ; have H0 := Lib.hid h0
  obtain ⟨W1, hW1⟩ : ∃ W1, W.alloc (.cells #[.func (.yield l) #[] #[]] 112) = W1 := ⟨_, rfl⟩
  have hT : Turns (fun _ => False) W W1 := by rw [← hW1]; exact Turns.alloc _ _ _
  have q0 : W1.cell? ⟨Be, 0, none⟩ = some (.pointer (some ⟨b, o, none⟩)) := (World.cell?_of_block (a := ⟨Be, 0, none⟩) (hT.block Be hBe (fun h => h))).trans k0
  have q1 : W1.cell? ⟨Bk, 0, none⟩ = some (.int .i64 k) := (World.cell?_of_block (a := ⟨Bk, 0, none⟩) (hT.block Bk hBk (fun h => h))).trans k1
  have q2 : W1.cell? ⟨b, o, none⟩ = some (.int .i64 kd) := (World.cell?_of_block (a := ⟨b, o, none⟩) (hT.block b hbW (fun h => h))).trans e0
  have q3 : W1.cell? ⟨b, o + 14, none⟩ = some (.slice pa np pc) := (World.cell?_of_block (a := ⟨b, o + 14, none⟩) (hT.block b hbW (fun h => h))).trans e14
  have HT := Lib.hid hT; have HW1 := Lib.hid hW1
  clear hJ hJx hO hnx hx0 h0 hY c0 c1 hn hW k0 k1 e0 e14 ep hnp hT hW1 hkd
  have hend : ∀ m, (∃ M xs, xs = [] ∧ J M xs (W1.drewN m) ∧ ∀ k, M k → W.heap.size ≤ k ∧ k < (W1.drewN m).heap.size) := fun m => ⟨fun _ => False, [], rfl, HJ.out [] _ _ W (W1.drewN m) H0.out (fun _ h => h.elim) (HT.out.trans ⟨rfl, rfl, rfl, Nat.le_refl _, fun _ _ _ => rfl⟩) (fun _ h => h.elim), fun _ h => h.elim⟩
  have HEND := Lib.hid hend
  clear hend
  refine callsIn_wide (n := 9) |>.1 ?_
  refine callsIn_of_wp Tryz.func101 rfl trivial ?_ rfl
  simp only [Tryz.ntmps101, List.size_toArray, List.length_cons, List.length_nil, Nat.reduceAdd, Nat.reduceSub, Array.replicate_succ, Array.replicate_zero, List.push_toArray, List.append_toArray, List.nil_append, List.cons_append]
  gi_upto_region 1 with fail
  rw [HW1.out]
  have hm : (Tryz.prog).follows .mixedOrders = true := by kernel_rfl
  by_cases h : kd = 12
  · subst h
    have hk0 : k ≠ 0 := fun h => h12 ⟨rfl, h⟩
    have hk1 : k ≠ 1 := fun h => h9 (.inr ⟨.inr rfl, h⟩)
    have gk0 := neI hk0
    have gk1 := neI hk1
    gi_wp2
    gi_quiet (fail)
    gi_wp2
    go_end0
    exact ⟨⟨_, rfl⟩, .inl (HEND.out _)⟩
  · have g12 := neI h
    by_cases h' : kd = 9
    · subst h'
      have hk0 : k ≠ 0 := fun h => h9 (.inl ⟨rfl, h⟩)
      have gk0 := neI hk0
      gi_wp2
      gi_quiet (fail)
      gi_wp2
      go_end0
      exact ⟨⟨_, rfl⟩, .inl (HEND.out _)⟩
    · have g9 := neI h'
      by_cases h' : kd = 11
      · subst h'
        have hk1 : k ≠ 1 := fun h => h9 (.inr ⟨.inl rfl, h⟩)
        have gk1 := neI hk1
        gi_wp2
        gi_quiet (fail)
        gi_wp2
        go_end0
        exact ⟨⟨_, rfl⟩, .inl (HEND.out _)⟩
      · have g11 := neI h'
        by_cases h' : kd = 14
        · subst h'
          by_cases hk : 1 ≤ k
          · have d1 : decide (1 ≤ k) = true := decide_eq_true hk
            have hk2 : ¬ k ≤ (np : Int) := fun h => h14 ⟨rfl, hk, h⟩
            have d2 : decide (k ≤ (np : Int)) = false := decide_eq_false hk2
            gi_wp2
            gi_quiet (fail)
            gi_wp2
            go_end0
            exact ⟨⟨_, rfl⟩, .inl (HEND.out _)⟩
          · have d1 : decide (1 ≤ k) = false := decide_eq_false hk
            gi_wp2
            gi_quiet (fail)
            gi_wp2
            go_end0
            exact ⟨⟨_, rfl⟩, .inl (HEND.out _)⟩
        · have g14 := neI h'
          gi_wp2
          gi_quiet (fail)
          gi_wp2
          go_end0
          exact ⟨⟨_, rfl⟩, .inl (HEND.out _)⟩
end Go.Proofs.YtmmhpibkjdlkgaaGreat
namespace Go.Proofs.YtmmhpibkjdlkgaaGreat
open Go Go.RowKit Go.Shelf
open Ex (E)

attribute [local go_sem] Oper.semAt_some

theorem one_way {e : Ending} {A B A' B' : Prop} (h : (e = .returned (.bool true) ∧ A ∧ A') ∨ (e = .returned (.bool false) ∧ B ∧ B')) : ∃ bv, e = .returned (.bool bv) ∧ ((bv = true ∧ A ∧ A') ∨ (bv = false ∧ B ∧ B')) := by
  rcases h with ⟨h1, h2⟩ | ⟨h1, h2⟩
  · exact ⟨true, h1, .inl ⟨rfl, h2⟩⟩
  · exact ⟨false, h1, .inr ⟨rfl, h2⟩⟩
set_option maxRecDepth 100000 in
set_option maxHeartbeats 4000000 in
theorem binds_one (Fr : Nat → Prop) (Be Bk b o n : Nat) (k : Int) (e : E) (w : World) (c0 : w.cell? ⟨Be, 0, none⟩ = some (.pointer (some ⟨b, o, none⟩))) (c1 : w.cell? ⟨Bk, 0, none⟩ = some (.int .i64 k)) (hn : ENode (LT n) w e b o) (hb : b < n) (hnw : n ≤ w.heap.size)
    (h9 : (e.kind = 9 ∧ k = 0) ∨ ((e.kind = 11 ∨ e.kind = 12) ∧ k = 1)) :
    SeqAt Tryz.prog 101 #[.pointer (some ⟨Be, 0, none⟩), .pointer (some ⟨Bk, 0, none⟩)] (fun s : List UInt8 => #[.string ⟨s.toArray⟩]) (fun xs => xs = [e.nm]) (fun pre x => ∃ rest, pre ++ x :: rest = [e.nm]) (fun _ => False) [] (fun _ _ _ => True) Fr w := fun l J Jx ok W hW hJ hJx hO hx0 hnx hY h0 => by
  have k0 := (World.cell?_of_block (a := ⟨Be, 0, none⟩) (hW.block Be (cell_lt c0))).trans c0
  have k1 := (World.cell?_of_block (a := ⟨Bk, 0, none⟩) (hW.block Bk (cell_lt c1))).trans c1
  have hbw : b < w.heap.size := Nat.lt_of_lt_of_le hb hnw
  have e0 := (World.cell?_of_block (a := ⟨b, o, none⟩) (hW.block b hbw)).trans hn.kidsAt.1.c0
  have e3 := (World.cell?_of_block (a := ⟨b, o + 3, none⟩) (hW.block b hbw)).trans hn.kidsAt.1.c3
  have hBe : Be < W.heap.size := Nat.lt_of_lt_of_le (cell_lt c0) hW.size
  have hBk : Bk < W.heap.size := Nat.lt_of_lt_of_le (cell_lt c1) hW.size
  have hbW : b < W.heap.size := Nat.lt_of_lt_of_le hbw hW.size
  obtain ⟨kd, hkd⟩ : ∃ kd, e.kind = kd := ⟨_, rfl⟩
  obtain ⟨nm, hnm⟩ : ∃ nm, e.nm = nm := ⟨_, rfl⟩
  rw [hkd] at e0 h9
  rw [hnm] at e3 hY ⊢
  obtain ⟨W1, hW1⟩ : ∃ W1, W.alloc (.cells #[.func (.yield l) #[] #[]] 112) = W1 := ⟨_, rfl⟩
  have hT : Turns (fun _ => False) W W1 := by rw [← hW1]; exact Turns.alloc _ _ _
  have q0 : W1.cell? ⟨Be, 0, none⟩ = some (.pointer (some ⟨b, o, none⟩)) := (World.cell?_of_block (a := ⟨Be, 0, none⟩) (hT.block Be hBe (fun h => h))).trans k0
  have q1 : W1.cell? ⟨Bk, 0, none⟩ = some (.int .i64 k) := (World.cell?_of_block (a := ⟨Bk, 0, none⟩) (hT.block Bk hBk (fun h => h))).trans k1
  have q2 : W1.cell? ⟨b, o, none⟩ = some (.int .i64 kd) := (World.cell?_of_block (a := ⟨b, o, none⟩) (hT.block b hbW (fun h => h))).trans e0
  have q3 : W1.cell? ⟨b, o + 3, none⟩ = some (.string ⟨nm.toArray⟩) := (World.cell?_of_block (a := ⟨b, o + 3, none⟩) (hT.block b hbW (fun h => h))).trans e3
  have q4 : W1.cell? ⟨W.heap.size, 0, none⟩ = some (.func (.yield l) #[] #[]) := by rw [← hW1]; exact cell_box (World.alloc_heap_new W _) rfl rfl
  have hTd : Turns (fun _ => False) W W1.drew := hT.trans (Turns.drew _ _)
  obtain ⟨fn, tmps, assign, body, hy, hRd⟩ := hY (fun _ => False) [] nm W1.drew (hJ [] _ _ W W1.drew h0 (fun _ h => h.elim) hTd (fun _ h => h.elim)) (fun _ h => h.elim) hTd.size ⟨[], rfl⟩ (fun h => h.elim)
  have HRD := Lib.hid hRd; have HW1 := Lib.hid hW1
  clear hJ hJx hO hnx hx0 h0 hY c0 c1 hn hW k0 k1 e0 e3 hT hTd hW1 hkd hnm hRd
  refine callsIn_wide (n := 9) |>.1 ?_
  refine callsIn_of_wp Tryz.func101 rfl trivial ?_ rfl
  simp only [Tryz.ntmps101, List.size_toArray, List.length_cons, List.length_nil, Nat.reduceAdd, Nat.reduceSub, Array.replicate_succ, Array.replicate_zero, List.push_toArray, List.append_toArray, List.nil_append, List.cons_append]
  gi_upto_region 1 with fail
  rw [HW1.out]
  have hm : (Tryz.prog).follows .mixedOrders = true := by kernel_rfl
  rcases h9 with ⟨rfl, rfl⟩ | ⟨rfl | rfl, rfl⟩
  · gi_upto_region 5 with fail
    gi_region_with_o (refine HRD.out.mono ?_; rintro _ W2 h2; obtain ⟨bv, rfl, hP⟩ := one_way h2; clear h2)
    all_goals gi_wp2
    all_goals go_end0
    all_goals
      rcases hP with ⟨_, hj, _⟩ | ⟨_, hj, _⟩
      · exact ⟨⟨_, rfl⟩, .inl ⟨fun _ => False, _, rfl, hj, fun _ h => h.elim⟩⟩
      · exact ⟨⟨_, rfl⟩, .inr ⟨fun _ => False, _, hj, fun _ h => h.elim⟩⟩
  · gi_upto_region 5 with fail
    gi_region_with_o (refine HRD.out.mono ?_; rintro _ W2 h2; obtain ⟨bv, rfl, hP⟩ := one_way h2; clear h2)
    all_goals gi_wp2
    all_goals go_end0
    all_goals
      rcases hP with ⟨_, hj, _⟩ | ⟨_, hj, _⟩
      · exact ⟨⟨_, rfl⟩, .inl ⟨fun _ => False, _, rfl, hj, fun _ h => h.elim⟩⟩
      · exact ⟨⟨_, rfl⟩, .inr ⟨fun _ => False, _, hj, fun _ h => h.elim⟩⟩
  · gi_upto_region 5 with fail
    gi_region_with_o (refine HRD.out.mono ?_; rintro _ W2 h2; obtain ⟨bv, rfl, hP⟩ := one_way h2; clear h2)
    all_goals gi_wp2
    all_goals go_end0
    all_goals
      rcases hP with ⟨_, hj, _⟩ | ⟨_, hj, _⟩
      · exact ⟨⟨_, rfl⟩, .inl ⟨fun _ => False, _, rfl, hj, fun _ h => h.elim⟩⟩
      · exact ⟨⟨_, rfl⟩, .inr ⟨fun _ => False, _, hj, fun _ h => h.elim⟩⟩
end Go.Proofs.YtmmhpibkjdlkgaaGreat
namespace Go.Proofs.YtmmhpibkjdlkgaaGreat
open Go Go.RowKit Go.Shelf
open Ex (E)

attribute [local go_sem] Oper.semAt_some

set_option maxRecDepth 100000 in
set_option maxHeartbeats 4000000 in
theorem binds_two (Fr : Nat → Prop) (Be Bk b o n : Nat) (k : Int) (e : E) (w : World) (c0 : w.cell? ⟨Be, 0, none⟩ = some (.pointer (some ⟨b, o, none⟩))) (c1 : w.cell? ⟨Bk, 0, none⟩ = some (.int .i64 k)) (hn : ENode (LT n) w e b o) (hb : b < n) (hnw : n ≤ w.heap.size)
    (h12 : e.kind = 12 ∧ k = 0) (hFe : ¬ Fr Be) (hFb : ¬ Fr b) :
    SeqAt Tryz.prog 101 #[.pointer (some ⟨Be, 0, none⟩), .pointer (some ⟨Bk, 0, none⟩)] (fun s : List UInt8 => #[.string ⟨s.toArray⟩]) (fun xs => xs = [e.nm, e.ar]) (fun pre x => ∃ rest, pre ++ x :: rest = [e.nm, e.ar]) (fun _ => False) [] (fun _ _ _ => True) Fr w := fun l J Jx ok W hW hJ hJx hO hx0 hnx hY h0 => by
  have k0 := (World.cell?_of_block (a := ⟨Be, 0, none⟩) (hW.block Be (cell_lt c0))).trans c0
  have k1 := (World.cell?_of_block (a := ⟨Bk, 0, none⟩) (hW.block Bk (cell_lt c1))).trans c1
  have hbw : b < w.heap.size := Nat.lt_of_lt_of_le hb hnw
  have e0 := (World.cell?_of_block (a := ⟨b, o, none⟩) (hW.block b hbw)).trans hn.kidsAt.1.c0
  have e3 := (World.cell?_of_block (a := ⟨b, o + 3, none⟩) (hW.block b hbw)).trans hn.kidsAt.1.c3
  have e4 := (World.cell?_of_block (a := ⟨b, o + 4, none⟩) (hW.block b hbw)).trans hn.kidsAt.1.c4
  have hBe : Be < W.heap.size := Nat.lt_of_lt_of_le (cell_lt c0) hW.size
  have hBk : Bk < W.heap.size := Nat.lt_of_lt_of_le (cell_lt c1) hW.size
  have hbW : b < W.heap.size := Nat.lt_of_lt_of_le hbw hW.size
  obtain ⟨hkd, rfl⟩ := h12
  obtain ⟨nm, hnm⟩ : ∃ nm, e.nm = nm := ⟨_, rfl⟩
  obtain ⟨ar, har⟩ : ∃ ar, e.ar = ar := ⟨_, rfl⟩
  rw [hkd] at e0
  rw [hnm] at e3; rw [har] at e4; rw [hnm, har] at hY ⊢
  obtain ⟨W1, hW1⟩ : ∃ W1, W.alloc (.cells #[.func (.yield l) #[] #[]] 112) = W1 := ⟨_, rfl⟩
  have hs1 : W1.heap.size = W.heap.size + 1 := by rw [← hW1]; simp
  have hT : Turns (fun _ => False) W W1 := by rw [← hW1]; exact Turns.alloc _ _ _
  have q0 : W1.cell? ⟨Be, 0, none⟩ = some (.pointer (some ⟨b, o, none⟩)) := (World.cell?_of_block (a := ⟨Be, 0, none⟩) (hT.block Be hBe (fun h => h))).trans k0
  have q1 : W1.cell? ⟨Bk, 0, none⟩ = some (.int .i64 0) := (World.cell?_of_block (a := ⟨Bk, 0, none⟩) (hT.block Bk hBk (fun h => h))).trans k1
  have q2 : W1.cell? ⟨b, o, none⟩ = some (.int .i64 12) := (World.cell?_of_block (a := ⟨b, o, none⟩) (hT.block b hbW (fun h => h))).trans e0
  have q3 : W1.cell? ⟨b, o + 3, none⟩ = some (.string ⟨nm.toArray⟩) := (World.cell?_of_block (a := ⟨b, o + 3, none⟩) (hT.block b hbW (fun h => h))).trans e3
  have q5 : W1.cell? ⟨b, o + 4, none⟩ = some (.string ⟨ar.toArray⟩) := (World.cell?_of_block (a := ⟨b, o + 4, none⟩) (hT.block b hbW (fun h => h))).trans e4
  have q4 : W1.cell? ⟨W.heap.size, 0, none⟩ = some (.func (.yield l) #[] #[]) := by rw [← hW1]; exact cell_box (World.alloc_heap_new W _) rfl rfl
  have hTd : Turns (fun _ => False) W W1.drew := hT.trans (Turns.drew _ _)
  have hMm : ∀ W' : World, W.heap.size < W'.heap.size → ∀ k, k = W.heap.size → W.heap.size ≤ k ∧ k < W'.heap.size := fun W' h k hk => by omega
  have hd1 : W.heap.size < W1.drew.heap.size := by show W.heap.size < W1.heap.size; omega
  obtain ⟨fn, tmps, assign, body, hy, hRd⟩ := hY (fun k => k = W.heap.size) [] nm W1.drew (hJ [] _ _ W W1.drew h0 (fun _ h => h.elim) hTd (fun k hk => ⟨.inr (by omega), by omega⟩)) (hMm _ hd1) hTd.size ⟨[ar], rfl⟩ (fun h => h.elim)
  have HRD := Lib.hid hRd; have HW1 := Lib.hid hW1; have HY := Lib.hid hY; have HS1 := Lib.hid hs1; have HBE := Lib.hid hBe; have HBB := Lib.hid hbW; have HMM := Lib.hid hMm; have HFE := Lib.hid hFe; have HFB := Lib.hid hFb
  have Q0 := Lib.hid q0; have Q5 := Lib.hid q5; have Q4 := Lib.hid q4
  have hup : ∀ W2, Turns (fun k => Fr k ∧ ¬ k = W.heap.size) W1.drew W2 → W2.cell? ⟨Be, 0, none⟩ = some (.pointer (some ⟨b, o, none⟩)) ∧ W2.cell? ⟨b, o + 4, none⟩ = some (.string ⟨ar.toArray⟩) ∧ W2.cell? ⟨W.heap.size, 0, none⟩ = some (.func (.yield l) #[] #[]) ∧ W.heap.size < W2.heap.size := fun W2 h2 => by
    have hs2 := h2.size
    have hd : W1.drew.heap.size = W.heap.size + 1 := HS1.out
    exact ⟨(World.cell?_of_block (a := ⟨Be, 0, none⟩) (h2.block Be (by have := HBE.out; omega) (fun h => HFE.out h.1))).trans Q0.out,
      (World.cell?_of_block (a := ⟨b, o + 4, none⟩) (h2.block b (by have := HBB.out; omega) (fun h => HFB.out h.1))).trans Q5.out,
      (World.cell?_of_block (a := ⟨W.heap.size, 0, none⟩) (h2.block W.heap.size (by omega) (fun h => h.2 rfl))).trans Q4.out, by omega⟩
  have HUP := Lib.hid hup
  clear hJ hJx hO hnx hx0 h0 hY c0 c1 hn hW k0 k1 e0 e3 e4 hT hTd hW1 hkd hnm har hRd hs1 hBe hBk hbW hMm hFe hFb hup hd1 Q0 Q5 Q4 hbw hb hnw
  refine callsIn_wide (n := 9) |>.1 ?_
  refine callsIn_of_wp Tryz.func101 rfl trivial ?_ rfl
  simp only [Tryz.ntmps101, List.size_toArray, List.length_cons, List.length_nil, Nat.reduceAdd, Nat.reduceSub, Array.replicate_succ, Array.replicate_zero, List.push_toArray, List.append_toArray, List.nil_append, List.cons_append]
  gi_upto_region 1 with fail
  rw [HW1.out]
  have hm : (Tryz.prog).follows .mixedOrders = true := by kernel_rfl
  gi_upto_region 2 with fail
  gi_region_with_o (first
    | (refine HRD.out.mono ?_
       rintro _ W2 h2
       rcases h2 with ⟨rfl, hj, hT⟩ | ⟨rfl, hj, hT⟩
       obtain ⟨r0, r5, r4, rs⟩ := HUP.out W2 hT
       obtain ⟨fn2, tmps2, assign2, body2, hy2, hRd2⟩ := HY.out (fun k => k = W.heap.size) [nm] ar W2 hj (HMM.out _ rs) (Nat.le_of_lt rs) ⟨[], rfl⟩ (fun h => h.elim)
       have HRD2 := Lib.hid hRd2
       have HRS := Lib.hid rs
       clear hRd2 hj hT rs
       rotate_left
       have HJF := Lib.hid hj
       have HRS := Lib.hid hT.size
       clear hj hT
       rename_i hK
       refine hK _ _ ?_
       clear hK
       refine wpAnyIn_ready (rs := [6]) (by kernel_rfl) (by simp) ?_
       refine AllReadyIn.cons rfl (fun K hK => ?_) AllReadyIn.nil
       go_simp
       refine hK _ _ ?_
       clear hK K
       refine wpAnyIn_take (i := 7) (v := undef) rfl rfl (by kernel_rfl) (by kernel_rfl) (by kernel_rfl) (fun _ _ _ h => h) ⟨Or.inr ⟨rfl, rfl⟩, fun _ => rfl⟩ ?_
       refine wpAnyIn_take (i := 8) (v := undef) rfl rfl (by kernel_rfl) (by kernel_rfl) (by kernel_rfl) (fun _ _ _ h => h) ⟨Or.inr ⟨rfl, rfl⟩, fun _ => rfl⟩ ?_
       refine wpAnyIn_take (i := 9) (v := undef) rfl rfl (by kernel_rfl) (by kernel_rfl) (by kernel_rfl) (fun _ _ _ h => h) ⟨Or.inr ⟨rfl, rfl⟩, fun _ => rfl⟩ ?_
       refine wpAnyIn_take (i := 10) (v := undef) rfl rfl (by kernel_rfl) (by kernel_rfl) (by kernel_rfl) (fun _ _ _ h => h) ⟨Or.inr ⟨rfl, rfl⟩, fun _ => rfl⟩ ?_
       refine wpAnyIn_take (i := 11) (v := undef) rfl rfl (by kernel_rfl) (by kernel_rfl) (by kernel_rfl) (fun _ _ _ h => h) ⟨Or.inr ⟨rfl, rfl⟩, fun _ => rfl⟩ ?_
       refine wpAnyIn_ready (rs := [12]) (by kernel_rfl) (by simp) ?_
       refine AllReadyIn.cons rfl (fun K hK => ?_) AllReadyIn.nil
       go_simp
       first
         | refine hK _ _ ?_
         | refine ⟨fun _ _ => trivial, hK _ _ ?_⟩
       clear hK K
       refine wpAnyIn_ready (rs := [13]) (by kernel_rfl) (by simp) ?_
       refine AllReadyIn.cons rfl (fun K hK => ?_) AllReadyIn.nil
       go_simp
       refine hK _ _ ?_
       clear hK K
       refine wpAnyIn_done (by kernel_rfl) ?_ _
       gi_wp2
       go_end0
       exact ⟨⟨_, rfl⟩, .inr ⟨fun k => k = W.heap.size, _, HJF.out, HMM.out _ (by have := HRS.out; have := HS1.out; have e : W1.drew.heap.size = W1.heap.size := rfl; omega)⟩⟩)
    | (refine HRD2.out.mono ?_
       rintro _ W3 h3
       obtain ⟨bv, rfl, hP⟩ := one_way h3
       clear h3))
  all_goals gi_wp2
  all_goals go_end0
  all_goals
    rcases hP with ⟨_, hj, hT⟩ | ⟨_, hj, hT⟩
    · exact ⟨⟨_, rfl⟩, .inl ⟨fun k => k = W.heap.size, _, rfl, hj, HMM.out _ (Nat.lt_of_lt_of_le HRS.out hT.size)⟩⟩
    · exact ⟨⟨_, rfl⟩, .inr ⟨fun k => k = W.heap.size, _, hj, HMM.out _ (Nat.lt_of_lt_of_le HRS.out hT.size)⟩⟩
end Go.Proofs.YtmmhpibkjdlkgaaGreat

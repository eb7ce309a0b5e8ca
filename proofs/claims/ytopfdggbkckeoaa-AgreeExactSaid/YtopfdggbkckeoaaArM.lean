/- The page's Meet: its kids may share the memory of what it is handed. -/
import Derived.Test.YtopfdggbkckeoaaArP
import Derived.Test.YtopfdggbkckeoaaTkB
namespace Go.Proofs.Ytopfdggbkckeoaa
open Go Go.RowKit
open Tp (T)

/-- What lay below A, and the blocks from B on, but the row's own. -/
def Old2 (A B : Nat) (w : World) (v : Value) : Nat → Prop := fun b => (b < A ∨ B ≤ b) ∧ b < w.heap.size ∧ v.ownBlock ≠ some b
/-- What lay below A, and what is new since w. -/
def Mix (A : Nat) (w w' : World) : Nat → Prop := fun b => (b < A ∨ w.heap.size ≤ b) ∧ b < w'.heap.size
structure RowM (A B : Nat) (w : World) (v : Value) (ks : List Ke) : Prop where
  own : w.ownsRow B 24 3 v ks.length (rowCells ks)
  each : ∀ e ∈ ks, TyAt (Old2 A B w v) w e.t e.a e.cap
theorem RowM.nil (A B : Nat) (w : World) : RowM A B w (.slice none 0 0) [] := ⟨World.ownsRow_nil _ _ _ _, fun _ h => by cases h⟩
theorem RowM.keep {A B : Nat} {w w' : World} {v : Value} {ks : List Ke} (h : RowM A B w v ks) (hs : ∀ k, (k < A ∨ B ≤ k) → k < w.heap.size → w'.heap[k]? = w.heap[k]?) (hz : w.heap.size ≤ w'.heap.size) : RowM A B w' v ks :=
  ⟨own_same h.own fun g hg => hs g (.inr (h.own.lt g hg).1) (h.own.lt g hg).2, fun e he => ty_same (fun k hk => hs k hk.1 hk.2.1) (fun _ hk => ⟨hk.1, Nat.lt_of_lt_of_le hk.2.1 hz, hk.2.2⟩) (h.each e he)⟩
theorem RowM.base {A B B' : Nat} {w : World} {v : Value} {ks : List Ke} (h : RowM A B w v ks) (hB : B' ≤ B) : RowM A B' w v ks :=
  ⟨own_base' h.own hB, fun e he => ty_same (fun _ _ => rfl) (fun _ hk => ⟨hk.1.imp id (Nat.le_trans hB), hk.2.1, hk.2.2⟩) (h.each e he)⟩
theorem RowM.push {A B n : Nat} {w w1 w2 : World} {o : Obj} {g2 cap2 : Nat} {v : Value} {ks : List Ke} {e : Ke} (h : RowM A B w v ks) (hn : ks.length = n) (hA : A ≤ B) (hb : ∀ k, k < w.heap.size → w1.heap[k]? = w.heap[k]?) (hz : w.heap.size ≤ w1.heap.size) (hB : B ≤ w.heap.size)
    (he : TyAt (Mix A w w1) w1 e.t e.a e.cap) (hown : w2.ownsRow B 24 3 (.slice (some ⟨g2, 0, none⟩) (n + 1) cap2) (n + 1) (rowCells ks ++ keCells e)) (hg : (w1.alloc o).grownBy w2 v.ownBlock) (hl : v.ownBlock = some g2 ∨ g2 = w1.heap.size + 1) :
    RowM A B w2 (.slice (some ⟨g2, 0, none⟩) (n + 1) cap2) (ks ++ [e]) := by
  subst hn
  have hsz : w1.heap.size < w2.heap.size := by have := hg.size; rw [World.size_alloc] at this; omega
  have kp : ∀ k, k < w1.heap.size → v.ownBlock ≠ some k → w2.heap[k]? = w1.heap[k]? := fun k hk hn => (hg.block k (by rw [World.size_alloc]; omega) (fun e => hn e.symm)).trans (Below.heap_alloc _ _ _ hk)
  have vlt : ∀ g, v.ownBlock = some g → B ≤ g ∧ g < w.heap.size := fun g hg => h.own.lt g hg
  refine ⟨by rw [rowCells_snoc, List.length_append]; exact hown, fun e' he' => ?_⟩
  rcases List.mem_append.1 he' with he' | he'
  · refine ty_same (fun k hk => (kp k (by have := hk.2.1; omega) hk.2.2).trans (hb k hk.2.1)) (fun k hk => ⟨hk.1, by have := hk.2.1; omega, fun x => ?_⟩) (h.each e' he')
    injection x with x
    dsimp only at x
    rcases hl with y | y
    · exact hk.2.2 (by rw [y, ← x])
    · have := hk.2.1; omega
  · obtain rfl := List.mem_singleton.1 he'
    have hk' : ∀ k, Mix A w w1 k → (k < A ∨ B ≤ k) ∧ k < w2.heap.size ∧ v.ownBlock ≠ some k := fun k hk => by
      obtain ⟨h1, h2⟩ := hk
      refine ⟨by omega, by omega, fun x => ?_⟩
      have := vlt k x
      omega
    refine ty_same (fun k hk => kp k hk.2 (hk' k hk).2.2) (fun k hk => ⟨(hk' k hk).1, (hk' k hk).2.1, fun x => ?_⟩) he
    injection x with x
    dsimp only at x
    rcases hl with y | y
    · exact (hk' k hk).2.2 (by rw [y, ← x])
    · have := hk.2; omega
theorem RowM.kids {A B : Nat} {w : World} {a : Option Addr} {n cap : Nat} {ks : List Ke} (h : RowM A B w (.slice a n cap) ks) : n = ks.length ∧ SlAt (fun b => (b < A ∨ B ≤ b) ∧ b < w.heap.size) w (ks.map Ke.t) a cap := by
  obtain ⟨a', cap', e⟩ := own_shapeT h.own
  injection e with e1 e2 e3
  refine ⟨e2, ?_⟩
  rcases h.own.2 with ⟨h1, h2⟩ | ⟨g, cp, cur, h1, h2, h3, h4, h5, _⟩
  · have hk : ks = [] := List.eq_nil_of_length_eq_zero h2
    injection h1 with q1 q2 q3
    subst q1 q3
    rw [hk]; exact ⟨by simp, by unfold maxLen; omega, by simp [KidsAt]⟩
  · injection h1 with q1 q2 q3
    subst q1
    subst q3
    refine ⟨by rw [List.length_map]; exact h4, h5, KidsAt.of_nodes ⟨.inr h2, (Array.getElem?_eq_some_iff.1 h3).1⟩ _ 0 (fun i hi => ?_)⟩
    have hi' : i < ks.length := by simpa using hi
    have hc := h.own.cells (g := g) rfl
    have k : ∀ j, j < 3 → ∀ u, (keCells ks[i])[j]? = some u → w.cell? ⟨g, 0 + i * 3 + j, none⟩ = some u := fun j hj u hu => by
      have := hc (i * 3 + j) u (by rw [rowCells_at ks i hi' j hj]; exact hu)
      rw [add_flat] at this
      rw [show 0 + i * 3 + j = 0 + (i * 3 + j) from by omega]; exact this
    have ht := ty_same (fun _ _ => rfl) (fun k hk => (⟨hk.1, hk.2.1⟩ : (k < A ∨ B ≤ k) ∧ k < w.heap.size)) (h.each ks[i] (List.getElem_mem hi'))
    have e0 : (ks.map Ke.t)[i] = ks[i].t := by simp
    rw [e0]
    exact NodeAt.mk' ht (k 0 (by omega) _ rfl) (k 1 (by omega) _ rfl) (k 2 (by omega) _ rfl)
/-- A kid, in the blocks where the tree lies. -/
theorem kid_in {n : Nat} {w wr : World} {t : T} {a : Option Addr} {cap : Nat} (h : TyAt (LT n) w t a cap) (hb : Below n w wr) {k : Nat} (hk : k < t.kids.length) :
    ∃ b o xa xcap, a = some ⟨b, o, none⟩ ∧ b < n ∧ TyAt (LT n) wr t.kids[k] xa xcap ∧ wr.cell? ⟨b, o + k * 3, none⟩ = some (.int .i64 t.kids[k].kind) ∧ wr.cell? ⟨b, o + k * 3 + 1, none⟩ = some (.int .i64 t.kids[k].num) ∧
      wr.cell? ⟨b, o + k * 3 + 2, none⟩ = some (.slice xa t.kids[k].kids.length xcap) := by
  have h2 := h.below hb (fun _ h => h) (fun _ h => h) (G' := LT n)
  obtain ⟨b, o, rfl, hbn, hN⟩ := h2.2.2.2.2.first (by omega)
  obtain ⟨xa, xcap, q1, q2, q3, q4⟩ := (hN k hk).ty
  exact ⟨b, o, xa, xcap, rfl, hbn, q1, q2, q3, q4⟩
theorem meets_append : ∀ (a b c d : List T), a.length = c.length → Tp.meets (a ++ b) (c ++ d) = Tp.meets a c ++ Tp.meets b d
  | [], b, [], d, _ => by simp [Tp.meets]
  | [], b, y :: s, d, h => by simp at h
  | x :: r, b, [], d, h => by simp at h
  | x :: r, b, y :: s, d, h => by
    simp only [List.cons_append, Tp.meets, meets_append r b s d (by simpa using h)]
theorem meets_take (l m : List T) (k : Nat) (h : k < l.length) (h' : k < m.length) : Tp.meets (l.take (k + 1)) (m.take (k + 1)) = Tp.meets (l.take k) (m.take k) ++ [Tp.meet l[k] m[k]] := by
  rw [List.take_succ_eq_append_getElem h, List.take_succ_eq_append_getElem h', meets_append _ _ _ _ (by simp; omega)]; simp [Tp.meets]
theorem agrees_at {l m : List T} (h : Tp.agrees l m = true) (k : Nat) (hk : k < l.length) (hk' : k < m.length) : Tp.agree l[k] m[k] = true := by
  cases hr : Tp.agree l[k] m[k] with
  | true => rfl
  | false => rw [agrees_get l m k hk hk' hr] at h; cases h
/-- What the page's Meet asks of two right types that agree, none of them a ?. -/
theorem page_meet {t u : T} (ht : Tp.right t = true) (hu : Tp.right u = true) (h5 : ¬ t.kind = 5) (h5' : ¬ u.kind = 5) (hag : Tp.agree t u = true) : (t.kids.length = 0 → Tp.meet t u = t) ∧ (¬ t.kids.length = 0 → t.kids.length = u.kids.length ∧ Tp.meet t u = .mk t.kind 0 (Tp.meets t.kids u.kids) ∧ Tp.agrees t.kids u.kids = true) := by
  cases t with
  | mk k n l =>
    cases u with
    | mk k' n' l' =>
      simp only [Tp.T.kind] at h5 h5'
      have e : Tp.agree (.mk k n l) (.mk k' n' l') = (decide (k = k') && decide (n = n') && Tp.agrees l l') := by simp only [Tp.agree, h5, h5', if_false]
      have e2 : Tp.meet (.mk k n l) (.mk k' n' l') = .mk k n (Tp.meets l l') := by simp only [Tp.meet, h5, h5', if_false]
      rw [e, Bool.and_eq_true, Bool.and_eq_true] at hag
      obtain ⟨⟨q1, q2⟩, q3⟩ := hag
      have p1 := of_decide_eq_true q1
      have p2 := of_decide_eq_true q2
      clear q1 q2
      subst p1
      subst p2
      obtain ⟨r1, _, _, _, r5⟩ := Tp.right_node ht
      obtain ⟨s1, _, _, _, _⟩ := Tp.right_node hu
      simp only [Tp.T.kids, Tp.T.kind]
      rw [e2]
      refine ⟨fun h => ?_, fun h => ⟨by omega, ?_, q3⟩⟩
      · have hl : l = [] := List.eq_nil_of_length_eq_zero h
        subst hl
        simp [Tp.meets]
      · have h6 : k ≠ 6 := fun h6 => by subst h6; simp [Tp.arity] at r1; omega
        rw [r5 h6]

/-- A type that comes back: of what lay below A, and of new blocks. -/
def MixPost (A : Nat) (x : T) (wr : World) (e : Ending) (w' : World) : Prop := ∃ k2 n2 m2 a2 c2, TV x k2 n2 m2 ∧ e = .returned (.agg #[.int .i64 k2, .int .i64 n2, .slice a2 m2 c2]) ∧ TyAt (Mix A wr w') w' x a2 c2 ∧ Below wr.heap.size wr w'
theorem mixPost_ret {A : Nat} {x : T} {wr : World} : ∀ e w', MixPost A x wr e w' → ∃ v, e = .returned v := fun _ _ ⟨_, _, _, _, _, _, h, _⟩ => ⟨_, h⟩

set_option maxRecDepth 100000 in
set_option maxHeartbeats 4000000 in
theorem rmeet_any (A : Nat) : ∀ (n : Nat) (t u : T) (kk nn : Int) (m : Nat) (a : Option Addr) (cap : Nat) (kk' nn' : Int) (m' : Nat) (a' : Option Addr) (cap' : Nat) (w : World), TV t kk nn m → TV u kk' nn' m' → Tp.size t ≤ n → Tp.size t ≤ 10000 → Tp.right t = true → Tp.right u = true → Tp.agree t u = true → A ≤ w.heap.size → TyAt (LT A) w t a cap → TyAt (LT A) w u a' cap' →
    Calls Try.prog 17 #[.agg #[.int .i64 kk, .int .i64 nn, .slice a m cap], .agg #[.int .i64 kk', .int .i64 nn', .slice a' m' cap']] w (MixPost A (Tp.meet t u) w) := by
  intro n
  induction n with
  | zero => intro t u kk nn m a cap kk' nn' m' a' cap' w hv hv' h; have := Tp.size_pos t; omega
  | succ n ih =>
    intro t u kk nn m a cap kk' nn' m' a' cap' w hv hv' hn hs hrt hru hag hA hty hty'
    have hm10 : m ≤ 10000 := by rw [← hv.2.2]; have := Tp.length_le_sizes t.kids; have := size_kids t; omega
    have hdyn : kk = 5 → Tp.meet t u = u := fun h => by rw [← hv.1] at h; cases t; cases u; simp only [Tp.T.kind] at h; simp [Tp.meet, h]
    have hdyn' : ¬ kk = 5 → kk' = 5 → Tp.meet t u = t := fun h h' => by rw [← hv.1] at h; rw [← hv'.1] at h'; cases t; cases u; simp only [Tp.T.kind] at h h'; simp [Tp.meet, h, h']
    have hpg := fun h5 h5' => page_meet hrt hru h5 h5' hag
    rw [hv.1, hv'.1, hv.2.2, hv'.2.2] at hpg
    have hmix : ∀ (x : T) (xa : Option Addr) (xc : Nat), TyAt (LT A) w x xa xc → ∀ w', Below w.heap.size w w' → TyAt (Mix A w w') w' x xa xc := fun x xa xc hx w' hb => hx.below (hb.mono hA) (fun _ h => h) (fun b h => ⟨.inl h, Nat.lt_of_lt_of_le h (Nat.le_trans hA hb.size)⟩)
    have hik : I64 kk := by rw [← hv.1]; exact hty.1
    have HN := Lib.hid hn; have HS := Lib.hid hs; have HTY := Lib.hid hty; have HTY' := Lib.hid hty'; have IH := Lib.hid ih; have HV := Lib.hid hv; have HV' := Lib.hid hv'; have HRT := Lib.hid hrt; have HRU := Lib.hid hru; have HA := Lib.hid hA; have HD := Lib.hid hdyn; have HD' := Lib.hid hdyn'; have HPG := Lib.hid hpg; have HMIX := Lib.hid hmix; have HIK := Lib.hid hik; have HM10 := Lib.hid hm10
    clear hn hs hty hty' ih hv hv' hrt hru hag hA hdyn hdyn' hpg hmix hik hm10
    obtain ⟨W3, hW3⟩ : ∃ W3, ((w.alloc (.cells #[.int .i64 kk, .int .i64 nn, .slice a m cap] 24)).alloc (.cells #[.int .i64 kk', .int .i64 nn', .slice a' m' cap'] 24)).alloc (.cells #[.int .i64 0, .int .i64 0, .slice none 0 0] 24) = W3 := ⟨_, rfl⟩
    have hs3 : W3.heap.size = w.heap.size + 3 := by rw [← hW3]; simp
    have hb3 : Below w.heap.size w W3 := by rw [← hW3]; exact (((Below.refl _ _).alloc (Nat.le_refl _) _).alloc (by simp) _).alloc (by simp <;> omega) _
    have b0 : W3.heap[w.heap.size]? = some (.cells #[.int .i64 kk, .int .i64 nn, .slice a m cap] 24) := by rw [← hW3]; exact (Below.heap_alloc _ _ _ (by simp <;> omega)).trans (box1 _ _ _ _ _)
    have b1 : W3.heap[w.heap.size + 1]? = some (.cells #[.int .i64 kk', .int .i64 nn', .slice a' m' cap'] 24) := by rw [← hW3]; exact (Below.heap_alloc _ _ _ (by simp)).trans (box2 _ _ _ _ _)
    have b2 : W3.heap[w.heap.size + 1 + 1]? = some (.cells #[.int .i64 0, .int .i64 0, .slice none 0 0] 24) := by
      have := World.alloc_heap_new ((w.alloc (.cells #[.int .i64 kk, .int .i64 nn, .slice a m cap] 24)).alloc (.cells #[.int .i64 kk', .int .i64 nn', .slice a' m' cap'] 24)) (.cells #[.int .i64 0, .int .i64 0, .slice none 0 0] 24)
      rw [World.size_alloc, World.size_alloc, hW3] at this; exact this
    have HW3 := Lib.hid hW3; have HS3 := Lib.hid hs3; have HB3 := Lib.hid hb3
    clear hW3 hs3 hb3
    go_enter Try.func17, Try.ntmps17
    go_upto_region 1 with fail
    rw [HW3.out]
    have c0 : W3.cell? ⟨w.heap.size, 0, none⟩ = some (.int .i64 kk) := cell_box b0 rfl rfl
    have c1 : W3.cell? ⟨w.heap.size, 1, none⟩ = some (.int .i64 nn) := cell_box b0 rfl rfl
    have c2 : W3.cell? ⟨w.heap.size, 2, none⟩ = some (.slice a m cap) := cell_box b0 rfl rfl
    have d0 : W3.cell? ⟨w.heap.size + 1, 0, none⟩ = some (.int .i64 kk') := cell_box b1 rfl rfl
    have d1 : W3.cell? ⟨w.heap.size + 1, 1, none⟩ = some (.int .i64 nn') := cell_box b1 rfl rfl
    have d2 : W3.cell? ⟨w.heap.size + 1, 2, none⟩ = some (.slice a' m' cap') := cell_box b1 rfl rfl
    have r0 : W3.cell? ⟨w.heap.size + 1 + 1, 0, none⟩ = some (.int .i64 0) := cell_box b2 rfl rfl
    have r1 : W3.cell? ⟨w.heap.size + 1 + 1, 1, none⟩ = some (.int .i64 0) := cell_box b2 rfl rfl
    have r2 : W3.cell? ⟨w.heap.size + 1 + 1, 2, none⟩ = some (.slice none 0 0) := cell_box b2 rfl rfl
    have fr0 : W3.frozen? ⟨w.heap.size + 1 + 1, 0, none⟩ = false := by simp [World.frozen?, b2]
    have fr1 : W3.frozen? ⟨w.heap.size + 1 + 1, 1, none⟩ = false := by simp [World.frozen?, b2]
    have fr2 : W3.frozen? ⟨w.heap.size + 1 + 1, 2, none⟩ = false := by simp [World.frozen?, b2]
    have HBX := Lib.hid (And.intro b0 (And.intro b1 b2)); clear b0 b1 b2
    have hst3 : ∀ v0 v1 v2, Below w.heap.size w (((W3.setCell ⟨w.heap.size + 1 + 1, 0, none⟩ v0).setCell ⟨w.heap.size + 1 + 1, 1, none⟩ v1).setCell ⟨w.heap.size + 1 + 1, 2, none⟩ v2) := fun v0 v1 v2 => ((HB3.out.setCell (by dsimp only; omega) _).setCell (by dsimp only; omega) _).setCell (by dsimp only; omega) _
    have HST3 := Lib.hid hst3; clear hst3
    by_cases h5 : kk = 5
    · have g5 : (kk == 5) = true := by simp [h5]
      have HRES := Lib.hid (HD.out h5); clear h5
      go_wp2_with fail
      refine bodyPost_ret (v := .agg #[.int .i64 kk', .int .i64 nn', .slice a' m' cap']) (by simp [results, Try.f17, go_sem, r0, r1, r2]) rfl ?_
      rw [HRES.out]
      exact ⟨_, _, _, _, _, HV'.out, rfl, HMIX.out _ _ _ HTY'.out _ (HST3.out _ _ _), HST3.out _ _ _⟩
    · have g5 : (kk == 5) = false := by simp [h5]
      by_cases h6 : kk' = 5
      · have g6 : (kk' == 5) = true := by simp [h6]
        have HRES := Lib.hid (HD'.out h5 h6); clear h5 h6
        go_wp2_with fail
        refine bodyPost_ret (v := .agg #[.int .i64 kk, .int .i64 nn, .slice a m cap]) (by simp [results, Try.f17, go_sem, r0, r1, r2]) rfl ?_
        rw [HRES.out]
        exact ⟨_, _, _, _, _, HV.out, rfl, HMIX.out _ _ _ HTY.out _ (HST3.out _ _ _), HST3.out _ _ _⟩
      · have g6 : (kk' == 5) = false := by simp [h6]
        have HP := Lib.hid (HPG.out h5 h6); clear h5 h6
        by_cases hm0 : m = 0
        · subst hm0
          have HRES := Lib.hid (HP.out.1 rfl)
          go_wp2_with fail
          refine bodyPost_ret (v := .agg #[.int .i64 kk, .int .i64 nn, .slice a 0 cap]) (by simp [results, Try.f17, go_sem, r0, r1, r2]) rfl ?_
          rw [HRES.out]
          exact ⟨_, _, _, _, _, HV.out, rfl, HMIX.out _ _ _ HTY.out _ (HST3.out _ _ _), HST3.out _ _ _⟩
        · obtain ⟨hmm, hres, hags⟩ := HP.out.2 hm0
          subst hmm
          have gm : ((m : Int) == 0) = false := by simp; omega
          have HRES := Lib.hid hres; have HAGS := Lib.hid hags
          clear hres hags hm0
          go_wp2_with fail
          rw [HS3.out]
          have H0 := Lib.hid (show Below w.heap.size w (W3.alloc (.cells #[.int .i64 kk, .int .i64 0, .slice none 0 0] 24)) ∧ (W3.alloc (.cells #[.int .i64 kk, .int .i64 0, .slice none 0 0] 24)).heap[w.heap.size]? = some (.cells #[.int .i64 kk, .int .i64 nn, .slice a m cap] 24) ∧ (W3.alloc (.cells #[.int .i64 kk, .int .i64 0, .slice none 0 0] 24)).heap[w.heap.size + 1]? = some (.cells #[.int .i64 kk', .int .i64 nn', .slice a' m cap'] 24) ∧ (W3.alloc (.cells #[.int .i64 kk, .int .i64 0, .slice none 0 0] 24)).heap[w.heap.size + 1 + 1]? = some (.cells #[.int .i64 0, .int .i64 0, .slice none 0 0] 24) ∧ (W3.alloc (.cells #[.int .i64 kk, .int .i64 0, .slice none 0 0] 24)).heap[w.heap.size + 3]? = some (.cells #[.int .i64 kk, .int .i64 0, .slice none 0 0] 24) ∧ w.heap.size + 4 ≤ (W3.alloc (.cells #[.int .i64 kk, .int .i64 0, .slice none 0 0] 24)).heap.size from ⟨HB3.out.alloc (by have := HS3.out; omega) _, (Below.heap_alloc _ _ _ (by have := HS3.out; omega)).trans HBX.out.1, (Below.heap_alloc _ _ _ (by have := HS3.out; omega)).trans HBX.out.2.1, (Below.heap_alloc _ _ _ (by have := HS3.out; omega)).trans HBX.out.2.2, by rw [← HS3.out]; exact World.alloc_heap_new W3 _, by rw [World.size_alloc]; have := HS3.out; omega⟩)
          clear c0 c1 c2 d0 d1 d2 r0 r1 r2 fr0 fr1 fr2 HBX HST3
          go_loopg [6] m (fun gk i wr => ∃ (k : Nat) (ks : List Ke) (v : Value), k ≤ m ∧ i = .int .i64 k ∧ ks.map Ke.t = Tp.meets (t.kids.take k) (u.kids.take k) ∧ RowM A (w.heap.size + 4) wr v ks ∧ wr.heap[w.heap.size]? = some (.cells #[.int .i64 kk, .int .i64 nn, .slice a m cap] 24) ∧ wr.heap[w.heap.size + 1]? = some (.cells #[.int .i64 kk', .int .i64 nn', .slice a' m cap'] 24) ∧
            wr.heap[w.heap.size + 1 + 1]? = some (.cells #[.int .i64 0, .int .i64 0, .slice none 0 0] 24) ∧ wr.heap[w.heap.size + 3]? = some (.cells #[.int .i64 kk, .int .i64 0, v] 24) ∧ Below w.heap.size w wr ∧ w.heap.size + 4 ≤ wr.heap.size ∧ gk = m - k)
          case atStart => exact ⟨0, [], _, Nat.zero_le _, rfl, by simp [Tp.meets], RowM.nil _ _ _, H0.out.2.1, H0.out.2.2.1, H0.out.2.2.2.1, H0.out.2.2.2.2.1, H0.out.1, H0.out.2.2.2.2.2, rfl⟩
          case round =>
            obtain ⟨k, ks, v, hk, rfl, hks, hrow, hbt, hbs, hbr, hbu, hbw, hsz, rfl⟩ := hrel
            have hkl : ks.length = k := by
              have := congrArg List.length hks
              have h1 := HV.out.2.2
              have h2 := HV'.out.2.2
              rw [List.length_map, Tp.meets_length _ _ (by rw [List.length_take, List.length_take, h1, h2]), List.length_take] at this; omega
            obtain ⟨va, vcap, rfl⟩ := own_shapeT hrow.own
            rw [hkl] at hrow hbu
            have cu : wr.cell? ⟨w.heap.size + 3, 2, none⟩ = some (.slice va k vcap) := cell_box hbu rfl rfl
            have cu0 : wr.cell? ⟨w.heap.size + 3, 0, none⟩ = some (.int .i64 kk) := cell_box hbu rfl rfl
            have cu1 : wr.cell? ⟨w.heap.size + 3, 1, none⟩ = some (.int .i64 0) := cell_box hbu rfl rfl
            have cr0 : wr.cell? ⟨w.heap.size + 1 + 1, 0, none⟩ = some (.int .i64 0) := cell_box hbr rfl rfl
            have cr1 : wr.cell? ⟨w.heap.size + 1 + 1, 1, none⟩ = some (.int .i64 0) := cell_box hbr rfl rfl
            have cr2 : wr.cell? ⟨w.heap.size + 1 + 1, 2, none⟩ = some (.slice none 0 0) := cell_box hbr rfl rfl
            have fr0 : wr.frozen? ⟨w.heap.size + 1 + 1, 0, none⟩ = false := by simp [World.frozen?, hbr]
            have fr1 : wr.frozen? ⟨w.heap.size + 1 + 1, 1, none⟩ = false := by simp [World.frozen?, hbr]
            have fr2 : wr.frozen? ⟨w.heap.size + 1 + 1, 2, none⟩ = false := by simp [World.frozen?, hbr]
            have ct : wr.cell? ⟨w.heap.size, 2, none⟩ = some (.slice a m cap) := cell_box hbt rfl rfl
            have cs : wr.cell? ⟨w.heap.size + 1, 2, none⟩ = some (.slice a' m cap') := cell_box hbs rfl rfl
            have HKS := Lib.hid hks; have HROW := Lib.hid hrow; have HBT := Lib.hid hbt; have HBS := Lib.hid hbs; have HBR := Lib.hid hbr; have HBU := Lib.hid hbu; have HBW := Lib.hid hbw; have HSZ := Lib.hid hsz; have HKL := Lib.hid hkl
            clear hks hrow hbt hbs hbr hbu hbw hsz hkl H0
            by_cases hlt : k < m
            · have hkk : k < t.kids.length := by rw [HV.out.2.2]; exact hlt
              have hkk' : k < u.kids.length := by rw [HV'.out.2.2]; exact hlt
              have hbA := HBW.out.mono HA.out
              obtain ⟨b, o, xa, xcap, rfl, hbn, hx, x0, x1, x2⟩ := kid_in HTY.out hbA hkk
              obtain ⟨b', o', ya, ycap, rfl, hbn', hy, y0, y1, y2⟩ := kid_in HTY'.out hbA hkk'
              have hsk := size_kid t.kids k hkk
              have hss := size_kids t
              have htk := meets_take t.kids u.kids k hkk hkk'
              have hAr : A ≤ wr.heap.size := Nat.le_trans HA.out HBW.out.size
              obtain ⟨xk, xn, xm, hvx⟩ := TV.mk t.kids[k]
              obtain ⟨yk, yn, ym, hvy⟩ := TV.mk u.kids[k]
              have hcall := IH.out t.kids[k] u.kids[k] xk xn xm xa xcap yk yn ym ya ycap wr.drew hvx hvy (by have := HN.out; omega) (by have := HS.out; omega) (rights_at (kids_right HRT.out) k hkk) (rights_at (kids_right HRU.out) k hkk') (agrees_at HAGS.out k hkk hkk') (by rw [World.size_drew]; exact hAr) (hx.below ((Below.refl A wr).drew) (fun _ h => h) (fun _ h => h)) (hy.below ((Below.refl A wr).drew) (fun _ h => h) (fun _ h => h))
              rw [hvx.1] at x0; rw [hvx.2.1] at x1; rw [hvx.2.2] at x2
              rw [hvy.1] at y0; rw [hvy.2.1] at y1; rw [hvy.2.2] at y2
              obtain ⟨x, hx'⟩ : ∃ x, Tp.meet t.kids[k] u.kids[k] = x := ⟨_, rfl⟩
              rw [hx'] at hcall htk
              have hcall2 : Calls Try.prog 17 #[.agg #[.int .i64 xk, .int .i64 xn, .slice xa xm xcap], .agg #[.int .i64 yk, .int .i64 yn, .slice ya ym ycap]] wr.drew (MixPost A x wr) := by
                refine hcall.mono fun e w' hp => ?_
                obtain ⟨k2, n2, m2, a2, c2, h1, h2, h3, h6⟩ := hp
                exact ⟨k2, n2, m2, a2, c2, h1, h2, h3, h6.os, h6.tape, h6.output, h6.size, h6.block⟩
              have HC := Lib.hid hcall2; have HTK := Lib.hid htk
              clear hcall hcall2 htk hx hy hx' hsk hss hvx hvy hbA hAr hkk hkk' hbn hbn'
              obtain ⟨i0, hi, hz0, hz1, hz2⟩ := info_parts info_ty
              have hb40 := b40 (Nat.le_trans (Nat.le_of_lt hlt) HM10.out)
              have HB40 := Lib.hid hb40; clear hb40
              go_wp2_with fail
              go_region_law (first
                | (refine step_call ?_ 17 #[.tmp 37, .tmp 42] #[24, 24] ?_ #[.agg #[.int .i64 xk, .int .i64 xn, .slice xa xm xcap], .agg #[.int .i64 yk, .int .i64 yn, .slice ya ym ycap]] ?_ ?_ HC.out mixPost_ret ?_
                   (· rfl)
                   (· rfl)
                   (· simp [Act.eval])
                   (· exact enters_of Try.func17 (by kernel_rfl) rfl)
                   rintro _ w6 ⟨k2, n2, m2, a2, c2, hv2, h1, hty2, hb6⟩
                   injection h1 with h1
                   subst h1
                   have hz6 : wr.heap.size ≤ w6.heap.size := hb6.size
                   have cu6 : w6.cell? ⟨w.heap.size + 3, 2, none⟩ = some (.slice va k vcap) := cell_box HBU.out (hb6.block _ (Nat.lt_of_lt_of_le (by omega) HSZ.out)) rfl
                   have lz6 : w.heap.size + 3 < w6.heap.size := cell_lt cu6
                   have HTY2 := Lib.hid hty2
                   have HV2 := Lib.hid hv2
                   have HB6 := Lib.hid hb6
                   have HZ6 := Lib.hid hz6
                   clear hty2 hb6 hz6 hv2)
                | (refine step_append_lies _ ?_ (.tmp 32) (.tmp 44) 22 ?_ (w.heap.size + 4) 24 i0 (.agg #[.int .i64 0, .int .i64 0, .slice none 0 0]) 3 40 Try.underlying22 hi hz0 hz1 hz2 ?_ ?_ (.slice va k vcap) k (rowCells ks) ?_ ?_ ⟨w6.heap.size, 0, none⟩ 1 1 [.int .i64 k2, .int .i64 n2, .slice a2 m2 c2] ?_ ?_ ?_ ?_ ?_ ?_ ?_ ?_ (w6.heap.size + 1) ?_ ?_
                   (· rfl)
                   (· rfl)
                   (· rfl)
                   (· decide)
                   (· rfl)
                   (· exact ((own_len (HROW.out.keep (fun y _ hy => HB6.out.block y hy) HZ6.out).own HKL.out).alloc _))
                   (· rfl)
                   (· rfl)
                   (· exact World.news_of_block (World.alloc_heap_new w6 _))
                   (· exact three_one _ _ _ _ _)
                   (· decide)
                   (· exact HB40.out.2)
                   (· exact HB40.out.1)
                   (· exact Nat.le_trans HSZ.out (Nat.le_trans HZ6.out (by simp)))
                   (· simp)
                   intro g2 cap2 w7 own7 gr7 ly7 _
                   have lu7 := far_own gr7 HB6.out HBU.out HROW.out.own (by omega)
                   have cu7 : w7.cell? ⟨w.heap.size + 3, 2, none⟩ = some (.slice va k vcap) := cell_box lu7 rfl rfl
                   have fu7 : w7.frozen? ⟨w.heap.size + 3, 2, none⟩ = false := by simp [World.frozen?, lu7]
                   have OW7 := Lib.hid own7
                   have GR7 := Lib.hid gr7
                   have LY7 := Lib.hid ly7
                   have LU7 := Lib.hid lu7
                   clear own7 gr7 ly7 lu7))
              all_goals
                have hrow7 := HROW.out.push HKL.out (e := ⟨x, a2, c2⟩) (Nat.le_trans HA.out (by omega)) (fun y hy => HB6.out.block y hy) HZ6.out HSZ.out HTY2.out (by simp only [keCells, HV2.out.1, HV2.out.2.1, HV2.out.2.2]; exact OW7.out) GR7.out LY7.out
                have lt7 := far_own GR7.out HB6.out HBT.out HROW.out.own (by omega)
                have ls7 := far_own GR7.out HB6.out HBS.out HROW.out.own (by omega)
                have lr7 := far_own GR7.out HB6.out HBR.out HROW.out.own (by omega)
                have hb7 : Below w.heap.size w w7 := (HBW.out.trans (HB6.out.mono HBW.out.size)).trans ((((Below.refl w.heap.size w6).alloc (Nat.le_trans HBW.out.size HZ6.out) _)).grown GR7.out (by rw [World.size_alloc]; have := HBW.out.size; have := HZ6.out; omega) (fun y hy => by have := (HROW.out.own.lt y hy).1; omega))
                have hz7 : w.heap.size + 4 ≤ w7.heap.size := by have h1 := GR7.out.size; rw [World.size_alloc] at h1; have h2 := HZ6.out; have h3 := HSZ.out; omega
                have R7 := Lib.hid hrow7; have LT7 := Lib.hid lt7; have LS7 := Lib.hid ls7; have LR7 := Lib.hid lr7; have HB7 := Lib.hid hb7; have HZ7 := Lib.hid hz7
                have hm10 := HM10.out
                clear hrow7 lt7 ls7 lr7 hb7 hz7
                go_wp2_with fail
                go_roundg (m - (k + 1))
                case measure => omega
                case rel =>
                  refine ⟨k + 1, ks ++ [⟨x, a2, c2⟩], _, by omega, by go_num, ?_, R7.out.keep (fun y hy _ => Below.heap_setCell _ _ _ y (by have := HA.out; dsimp only; omega)) (by rw [size_setCell]; exact Nat.le_refl _), ?_, ?_, ?_, set2 LU7.out, HB7.out.setCell (by dsimp only; omega) _, by rw [size_setCell]; exact HZ7.out, rfl⟩
                  · rw [List.map_append, HKS.out, HTK.out]; rfl
                  · exact (Below.heap_setCell _ _ _ _ (by dsimp only; omega)).trans LT7.out
                  · exact (Below.heap_setCell _ _ _ _ (by dsimp only; omega)).trans LS7.out
                  · exact (Below.heap_setCell _ _ _ _ (by dsimp only; omega)).trans LR7.out
            · obtain rfl : k = m := by omega
              have hall : ks.map Ke.t = Tp.meets t.kids u.kids := by rw [HKS.out, List.take_of_length_le (by rw [HV.out.2.2]; exact Nat.le_refl _), List.take_of_length_le (by rw [HV'.out.2.2]; exact Nat.le_refl _)]
              have hml : (Tp.meets t.kids u.kids).length = k := by rw [Tp.meets_length _ _ (by rw [HV.out.2.2, HV'.out.2.2]), HV.out.2.2]
              have HALL := Lib.hid hall; have HML := Lib.hid hml; clear hall hml
              have HSW := Lib.hid (show w.heap.size ≤ wr.heap.size from HBW.out.size)
              go_wp2_with fail
              refine bodyPost_ret (v := .agg #[.int .i64 kk, .int .i64 0, .slice va k vcap]) (by simp [results, Try.f17, go_sem, cr0, cr1, cr2]) rfl ?_
              have hrw := (HROW.out.keep (fun y hy _ => (Below.heap_setCell _ _ _ y (by have := HA.out; dsimp only; omega)).trans ((Below.heap_setCell _ _ _ y (by have := HA.out; dsimp only; omega)).trans (Below.heap_setCell _ _ _ y (by have := HA.out; dsimp only; omega)))) (by rw [size_setCell, size_setCell, size_setCell]; exact Nat.le_refl _) : RowM A (w.heap.size + 4) (((wr.setCell ⟨w.heap.size + 1 + 1, 0, none⟩ (.int .i64 kk)).setCell ⟨w.heap.size + 1 + 1, 1, none⟩ (.int .i64 0)).setCell ⟨w.heap.size + 1 + 1, 2, none⟩ (.slice va k vcap)) _ _).base (show w.heap.size ≤ w.heap.size + 4 by omega)
              have hsl := hrw.kids.2
              rw [HALL.out] at hsl
              rw [HRES.out]
              exact ⟨kk, 0, k, va, vcap, ⟨rfl, rfl, HML.out⟩, rfl, ⟨HIK.out, (show I64 0 from i64_nat (by decide) (by decide)), hsl⟩,
                ((HBW.out.setCell (by dsimp only; omega) _).setCell (by dsimp only; omega) _).setCell (by dsimp only; omega) _⟩
end Go.Proofs.Ytopfdggbkckeoaa

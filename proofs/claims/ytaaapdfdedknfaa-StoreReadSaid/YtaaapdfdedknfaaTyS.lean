/- typ.Depth, typ.has, typ.Static, typ.Closed, typ.Check. -/
import Derived.Test.YtaaapdfdedknfaaTyQ
namespace Go.Proofs.Ytaaapdfdedknfaa
open Go Go.RowKit Go.Shelf
open Tp (T)

attribute [local go_sem] Oper.semAt_some

/-- The number that a right one has, and one that is not. -/
def errOf (b : Bool) : Int := if b = true then 0 else 1
theorem keys_snoc (pre : List Nd) (x : Nd) : (pre ++ [x]).map Nd.key = pre.map Nd.key ++ [(x.t, x.d)] := by simp [Nd.key]

set_option maxRecDepth 100000 in
set_option maxHeartbeats 2000000 in
theorem has_any (t : T) (a : Option Addr) (cap : Nat) (q : Int) (w : World) (hsz : Tp.size t ≤ 10000) (hty : TyAt (LT w.heap.size) w t a cap) :
    Calls Try.prog 127 #[tv t a cap, .int .i64 q] w fun e w' => e = .returned (.bool (!Tp.without q t)) ∧ Below w.heap.size w w' := by
  refine callsIn_wide (n := 9) |>.1 ?_
  have HTY := Lib.hid hty; clear hty
  obtain ⟨k0, hk0⟩ : ∃ k0, t.kind = k0 := ⟨_, rfl⟩
  obtain ⟨n0, hn0⟩ : ∃ n0, t.num = n0 := ⟨_, rfl⟩
  obtain ⟨m0, hm0⟩ : ∃ m0, t.kids.length = m0 := ⟨_, rfl⟩
  unfold tv
  have h30 := fun w => nodes_any t a cap w
  unfold tv at h30
  rw [hk0, hn0, hm0] at h30 ⊢
  have HK := Lib.hid hk0; have HN := Lib.hid hn0; have HM := Lib.hid hm0; have H30 := Lib.hid h30
  clear hk0 hn0 hm0 h30
  refine callsIn_of_wp_marks Try.func127 rfl trivial ?_ rfl
  simp only [Try.ntmps127, List.size_toArray, List.length_cons, List.length_nil, Nat.reduceAdd, Nat.reduceSub, Array.replicate_succ, Array.replicate_zero, List.push_toArray, List.append_toArray, List.nil_append, List.cons_append]
  gi_wp2_with (refine ⟨trivial, ?_⟩; gi_at_call 125; refine (callsIn_wide.2 (H30.out _)).mono ?_; rintro e w' ⟨rfl, rfl⟩)
  have hb0 : Below w.heap.size w ((((w.alloc (.cells #[.int .i64 k0, .int .i64 n0, .slice a m0 cap] 26)).alloc (.cells #[.int .i64 q] 3)).alloc (.cells #[.bool false] 4)).alloc (.cells #[.int .i64 k0, .int .i64 n0, .slice a m0 cap] 26)) := ((((Below.refl _ _).alloc (Nat.le_refl _) _).alloc (by simp) _).alloc (by simp <;> omega) _).alloc (by simp <;> omega) _
  have hbq : ((((w.alloc (.cells #[.int .i64 k0, .int .i64 n0, .slice a m0 cap] 26)).alloc (.cells #[.int .i64 q] 3)).alloc (.cells #[.bool false] 4)).alloc (.cells #[.int .i64 k0, .int .i64 n0, .slice a m0 cap] 26)).heap[w.heap.size + 1]? = some (.cells #[.int .i64 q] 3) := (Below.heap_alloc _ _ _ (by simp <;> omega)).trans ((Below.heap_alloc _ _ _ (by simp)).trans (box2 _ _ _ _ _))
  have hbr : ((((w.alloc (.cells #[.int .i64 k0, .int .i64 n0, .slice a m0 cap] 26)).alloc (.cells #[.int .i64 q] 3)).alloc (.cells #[.bool false] 4)).alloc (.cells #[.int .i64 k0, .int .i64 n0, .slice a m0 cap] 26)).heap[w.heap.size + 1 + 1]? = some (.cells #[.bool false] 4) := (Below.heap_alloc _ _ _ (by simp)).trans (by have := World.alloc_heap_new ((w.alloc (.cells #[.int .i64 k0, .int .i64 n0, .slice a m0 cap] 26)).alloc (.cells #[.int .i64 q] 3)) (.cells #[.bool false] 4); simpa using this)
  refine wpIn_range_mine (gf := 139) (lb := #[.pointer (some ⟨w.heap.size + 1 + 1 + 1, 0, none⟩)]) rfl (enters_of Try.func139 (by kernel_rfl) rfl)
    (nodes_seq t hsz w.heap.size (w.heap.size + 1 + 1 + 1) a cap _ hb0.size (HTY.out.below hb0 (fun _ h => h) (fun _ h => h)) (by rw [HK.out, HN.out, HM.out]; have := World.alloc_heap_new (((w.alloc (.cells #[.int .i64 k0, .int .i64 n0, .slice a m0 cap] 26)).alloc (.cells #[.int .i64 q] 3)).alloc (.cells #[.bool false] 4)) (.cells #[.int .i64 k0, .int .i64 n0, .slice a m0 cap] 26); simpa using this))
    (Below.refl _ _) hb0.size (fun _ => rfl)
    (fun M pre W => (W.heap[w.heap.size + 1]? = some (.cells #[.int .i64 q] 3) ∧ ¬ M (w.heap.size + 1)) ∧ ((W.heap[w.heap.size + 1 + 1]? = some (.cells #[.bool false] 4) ∧ ¬ M (w.heap.size + 1 + 1)) ∧ (Below w.heap.size w W ∧ (pre.map Nd.key).all (fun y => !decide (y.1.kind = q)) = true)))
    (fun c M _ W => (W.heap[w.heap.size + 1 + 1]? = some (.cells #[.bool true] 4) ∧ ¬ M (w.heap.size + 1 + 1)) ∧ (Below w.heap.size w W ∧ (c = .ret ∧ Tp.without q t = false)))
    (fun x a' M W => ∃ B, (W.heap[B]? = some (.cells #[.int .i64 x.t.kind, .int .i64 x.t.num, .slice x.a x.t.kids.length x.cap] 26) ∧ ¬ M B) ∧ a' = { tmps := #[.agg #[.int .i64 k0, .int .i64 n0, .slice a m0 cap], .int .i64 q, .pointer (some ⟨w.heap.size, 0, none⟩), .pointer (some ⟨w.heap.size + 1, 0, none⟩), .pointer (some ⟨w.heap.size + 1 + 1, 0, none⟩), .pointer (some ⟨B, 0, none⟩), .agg #[.int .i64 k0, .int .i64 n0, .slice a m0 cap], .func (.func 139) #[] #[.pointer (some ⟨w.heap.size + 1 + 1 + 1, 0, none⟩)], tv x.t x.a x.cap, .int .i64 (x.d : Int), undef, undef, undef, undef], defers := [] })
    (fun s => Ab.and (Ab.block _ _ _) (Ab.and (Ab.block _ _ _) (Ab.and (Ab.below hb0.size w (Nat.le_refl _)) (Ab.pure _ _)))) (fun _ _ => Ab.and (Ab.block _ _ _) (Ab.and (Ab.below hb0.size w (Nat.le_refl _)) (Ab.pure _ _))) (fun _ _ => Ab.ex fun B => Ab.and (Ab.block _ _ _) (Ab.pure _ _)) ⟨⟨hbq, fun h => h⟩, ⟨hbr, fun h => h⟩, hb0, rfl⟩ ?assign ?body ?done ?stop
  case assign =>
    intro l M pre x W K hi hM hok hK
    simp only [ndEnc, tv]
    clear hb0 hbq hbr hi
    gi_wp2
    refine hK _ _ (Turns.alloc _ _ _) ⟨W.heap.size, ⟨World.alloc_heap_new _ _, fun h => by have := (hM _ h).2; omega⟩, ?_⟩
    simp [tv]
  case body =>
    rintro l M pre x a' W ⟨⟨hq, hqM⟩, ⟨hr, hrM⟩, hbl, hall⟩ hM hle hok ⟨B, ⟨hB, hBM⟩, rfl⟩
    have HOK := Lib.hid hok; have HALL := Lib.hid hall; have HBL := Lib.hid hbl; have HRM := Lib.hid hrM; have HQM := Lib.hid hqM
    have cq : W.cell? ⟨w.heap.size + 1, 0, none⟩ = some (.int .i64 q) := cell_box hq rfl rfl
    have cr : W.cell? ⟨w.heap.size + 1 + 1, 0, none⟩ = some (.bool false) := cell_box hr rfl rfl
    have fr : W.frozen? ⟨w.heap.size + 1 + 1, 0, none⟩ = false := Boxed.frozen hr
    have cB : W.cell? ⟨B, 0, none⟩ = some (.int .i64 x.t.kind) := cell_box hB rfl rfl
    have HQ := Lib.hid hq; have HR := Lib.hid hr
    clear hq hr hB hqM hrM hBM hM hle hok hall hbl hb0 hbq hbr
    obtain ⟨xk, hxk⟩ : ∃ xk, x.t.kind = xk := ⟨_, rfl⟩
    rw [hxk] at cB
    have HXK := Lib.hid hxk; clear hxk
    by_cases hkq : xk = q
    · have hkq' : (xk == q) = true := by simp [hkq]
      have hw : Tp.without q t = false := by
        obtain ⟨⟨rest, hrest⟩, _⟩ := HOK.out
        have := Tp.pre_without q t 1
        rw [← this, ← hrest, List.all_append, List.all_cons]
        simp [Nd.key, HXK.out, hkq]
      have HW := Lib.hid hw; clear hw
      have HKQ := Lib.hid hkq; clear hkq
      gi_wp2
      exact ⟨Turns.setCell _ _ _ ⟨by simp; omega, HRM.out⟩, ⟨Boxed.set _ HR.out, HRM.out⟩, HBL.out.setCell (by simp <;> omega) _, rfl, HW.out⟩
    · have hkq' : (xk == q) = false := by simp [hkq]
      have HKQ := Lib.hid hkq; clear hkq
      gi_wp2
      refine ⟨Turns.refl _ _, ⟨HQ.out, HQM.out⟩, ⟨HR.out, HRM.out⟩, HBL.out, ?_⟩
      rw [keys_snoc, List.all_append, HALL.out]
      simp [HXK.out, HKQ.out]
  case done =>
    rintro D M xs W hD hS ⟨⟨hq, hqM⟩, ⟨hr, hrM⟩, hbl, hall⟩ hK
    have cr : W.cell? ⟨w.heap.size + 1 + 1, 0, none⟩ = some (.bool false) := cell_box hr rfl rfl
    have fr : W.frozen? ⟨w.heap.size + 1 + 1, 0, none⟩ = false := Boxed.frozen hr
    have hne : w.heap.size + 1 + 1 ≠ D := by simp at hD; omega
    have hK' : (W.setCell ⟨w.heap.size + 1 + 1, 0, none⟩ (.bool false)).heap[D]? = some (.deferred (some [])) := (Below.heap_setCell _ _ _ D (fun e => hne e.symm)).trans hK
    have hr' : ((W.setCell ⟨w.heap.size + 1 + 1, 0, none⟩ (.bool false)).putObj D (.deferred none)).heap[w.heap.size + 1 + 1]? = some (.cells #[.bool false] 4) := (World.putObj_heap_other hne).trans (Boxed.set _ hr)
    have hwo : Tp.without q t = true := by
      rw [show xs.map Nd.key = Tp.pre t 1 from hS, Tp.pre_without] at hall; exact hall
    have HR' := Lib.hid hr'; have HBL := Lib.hid hbl; have HWO := Lib.hid hwo
    clear hq hr hbq hbr hall hr' hbl hwo
    gi_wp2
    refine ⟨by simp, .inl ⟨_, _, rfl, run_takeDeferred hK', ?_⟩⟩
    have hc5 := cell_box HR'.out rfl (i := 0) rfl
    refine ⟨.bool false, ?_, by rw [HWO.out]; rfl, ?_⟩
    · simp [results, Try.f127, go_sem, hc5]
    · exact ((Turns.setCell (M := fun k => w.heap.size ≤ k) W ⟨w.heap.size + 1 + 1, 0, none⟩ _ (by simp <;> omega)).trans (Turns.putObj _ D _ (by simp at hD; omega))).below HBL.out (fun _ h => h) HBL.out.size
  case stop =>
    rintro D M c pre W hD ⟨⟨hr, hrM⟩, hbl, rfl, hwo⟩ hK
    have hne : w.heap.size + 1 + 1 ≠ D := by simp at hD; omega
    have hr' : (W.putObj D (.deferred none)).heap[w.heap.size + 1 + 1]? = some (.cells #[.bool true] 4) := (World.putObj_heap_other hne).trans hr
    have HR' := Lib.hid hr'; have HBL := Lib.hid hbl; have HWO := Lib.hid hwo
    clear hr hbq hbr hr' hbl hwo
    gi_wp2
    refine ⟨by simp, .inl ⟨_, _, rfl, run_takeDeferred hK, ?_⟩⟩
    have hc5 := cell_box HR'.out rfl (i := 0) rfl
    refine ⟨.bool true, ?_, by rw [HWO.out]; rfl, ?_⟩
    · simp [results, Try.f127, go_sem, hc5]
    · exact (Turns.putObj (M := fun k => w.heap.size ≤ k) _ D _ (by simp at hD; omega)).below HBL.out (fun _ h => h) HBL.out.size

set_option maxHeartbeats 1000000 in
theorem static_any (t : T) (a : Option Addr) (cap : Nat) (w : World) (hsz : Tp.size t ≤ 10000) (hty : TyAt (LT w.heap.size) w t a cap) :
    Calls Try.prog 138 #[tv t a cap] w fun e w' => e = .returned (.bool (Tp.without 5 t)) ∧ Below w.heap.size w w' := by
  have HTY := Lib.hid hty; clear hty
  obtain ⟨k0, hk0⟩ : ∃ k0, t.kind = k0 := ⟨_, rfl⟩
  obtain ⟨n0, hn0⟩ : ∃ n0, t.num = n0 := ⟨_, rfl⟩
  obtain ⟨m0, hm0⟩ : ∃ m0, t.kids.length = m0 := ⟨_, rfl⟩
  have h30 := fun w1 h => has_any t a cap 5 w1 hsz h
  unfold tv at h30 ⊢
  rw [hk0, hn0, hm0] at h30 ⊢
  have H30 := Lib.hid h30
  clear hk0 hn0 hm0 h30
  go_enter Try.func138, Try.ntmps138
  go_wp2_with (go_at_call 127; refine (H30.out _ ?_).mono ?_; (· exact HTY.out.below ((Below.refl _ _).alloc (Nat.le_refl _) _) (fun _ h => h) (fun b h => Nat.lt_of_lt_of_le h (by simp))); rintro e w1 ⟨rfl, hb⟩)
  go_ret
  exact ⟨ret_boolT (by simp), ((Below.refl _ _).alloc (Nat.le_refl _) _).trans (hb.mono (by simp))⟩

set_option maxHeartbeats 1000000 in
theorem closed_any (t : T) (a : Option Addr) (cap : Nat) (w : World) (hsz : Tp.size t ≤ 10000) (hty : TyAt (LT w.heap.size) w t a cap) :
    Calls Try.prog 86 #[tv t a cap] w fun e w' => e = .returned (.bool (Tp.without 6 t)) ∧ Below w.heap.size w w' := by
  have HTY := Lib.hid hty; clear hty
  obtain ⟨k0, hk0⟩ : ∃ k0, t.kind = k0 := ⟨_, rfl⟩
  obtain ⟨n0, hn0⟩ : ∃ n0, t.num = n0 := ⟨_, rfl⟩
  obtain ⟨m0, hm0⟩ : ∃ m0, t.kids.length = m0 := ⟨_, rfl⟩
  have h30 := fun w1 h => has_any t a cap 6 w1 hsz h
  unfold tv at h30 ⊢
  rw [hk0, hn0, hm0] at h30 ⊢
  have H30 := Lib.hid h30
  clear hk0 hn0 hm0 h30
  go_enter Try.func86, Try.ntmps86
  go_wp2_with (go_at_call 127; refine (H30.out _ ?_).mono ?_; (· exact HTY.out.below ((Below.refl _ _).alloc (Nat.le_refl _) _) (fun _ h => h) (fun b h => Nat.lt_of_lt_of_le h (by simp))); rintro e w1 ⟨rfl, hb⟩)
  go_ret
  exact ⟨ret_boolT (by simp), ((Below.refl _ _).alloc (Nat.le_refl _) _).trans (hb.mono (by simp))⟩

set_option maxRecDepth 100000 in
set_option maxHeartbeats 2000000 in
theorem check_any (t : T) (a : Option Addr) (cap : Nat) (w : World) (hsz : Tp.size t ≤ 10000) (hty : TyAt (LT w.heap.size) w t a cap) :
    Calls Try.prog 85 #[tv t a cap] w fun e w' => e = .returned (.int .i64 (errOf (Tp.right t))) ∧ Below w.heap.size w w' := by
  refine callsIn_wide (n := 9) |>.1 ?_
  have HTY := Lib.hid hty; clear hty
  obtain ⟨k0, hk0⟩ : ∃ k0, t.kind = k0 := ⟨_, rfl⟩
  obtain ⟨n0, hn0⟩ : ∃ n0, t.num = n0 := ⟨_, rfl⟩
  obtain ⟨m0, hm0⟩ : ∃ m0, t.kids.length = m0 := ⟨_, rfl⟩
  unfold tv
  have h30 := fun w => nodes_any t a cap w
  unfold tv at h30
  rw [hk0, hn0, hm0] at h30 ⊢
  have HK := Lib.hid hk0; have HN := Lib.hid hn0; have HM := Lib.hid hm0; have H30 := Lib.hid h30
  clear hk0 hn0 hm0 h30
  refine callsIn_of_wp_marks Try.func85 rfl trivial ?_ rfl
  simp only [Try.ntmps85, List.size_toArray, List.length_cons, List.length_nil, Nat.reduceAdd, Nat.reduceSub, Array.replicate_succ, Array.replicate_zero, List.push_toArray, List.append_toArray, List.nil_append, List.cons_append]
  gi_wp2_with (refine ⟨trivial, ?_⟩; gi_at_call 125; refine (callsIn_wide.2 (H30.out _)).mono ?_; rintro e w' ⟨rfl, rfl⟩)
  have hb0 : Below w.heap.size w (((w.alloc (.cells #[.int .i64 k0, .int .i64 n0, .slice a m0 cap] 26)).alloc (.cells #[.int .i64 0] 45)).alloc (.cells #[.int .i64 k0, .int .i64 n0, .slice a m0 cap] 26)) := (((Below.refl _ _).alloc (Nat.le_refl _) _).alloc (by simp) _).alloc (by simp <;> omega) _
  have hbr : (((w.alloc (.cells #[.int .i64 k0, .int .i64 n0, .slice a m0 cap] 26)).alloc (.cells #[.int .i64 0] 45)).alloc (.cells #[.int .i64 k0, .int .i64 n0, .slice a m0 cap] 26)).heap[w.heap.size + 1]? = some (.cells #[.int .i64 0] 45) := (Below.heap_alloc _ _ _ (by simp)).trans (box2 _ _ _ _ _)
  refine wpIn_range_mine (gf := 139) (lb := #[.pointer (some ⟨w.heap.size + 1 + 1, 0, none⟩)]) rfl (enters_of Try.func139 (by kernel_rfl) rfl)
    (nodes_seq t hsz w.heap.size (w.heap.size + 1 + 1) a cap _ hb0.size (HTY.out.below hb0 (fun _ h => h) (fun _ h => h)) (by rw [HK.out, HN.out, HM.out]; have := World.alloc_heap_new ((w.alloc (.cells #[.int .i64 k0, .int .i64 n0, .slice a m0 cap] 26)).alloc (.cells #[.int .i64 0] 45)) (.cells #[.int .i64 k0, .int .i64 n0, .slice a m0 cap] 26); simpa using this))
    (Below.refl _ _) hb0.size (fun _ => rfl)
    (fun M pre W => (W.heap[w.heap.size + 1]? = some (.cells #[.int .i64 0] 45) ∧ ¬ M (w.heap.size + 1)) ∧ (Below w.heap.size w W ∧ (pre.map Nd.key).all (fun x => Tp.nodeRight x.1.kind x.1.num x.1.kids.length) = true))
    (fun c M _ W => (W.heap[w.heap.size + 1]? = some (.cells #[.int .i64 1] 45) ∧ ¬ M (w.heap.size + 1)) ∧ (Below w.heap.size w W ∧ (c = .ret ∧ Tp.right t = false)))
    (fun x a' M W => ∃ B, (W.heap[B]? = some (.cells #[.int .i64 x.t.kind, .int .i64 x.t.num, .slice x.a x.t.kids.length x.cap] 26) ∧ ¬ M B) ∧ a' = { tmps := #[.agg #[.int .i64 k0, .int .i64 n0, .slice a m0 cap], .pointer (some ⟨w.heap.size, 0, none⟩), .pointer (some ⟨w.heap.size + 1, 0, none⟩), .pointer (some ⟨B, 0, none⟩), .agg #[.int .i64 k0, .int .i64 n0, .slice a m0 cap], .func (.func 139) #[] #[.pointer (some ⟨w.heap.size + 1 + 1, 0, none⟩)], tv x.t x.a x.cap, .int .i64 (x.d : Int), undef, undef, undef], defers := [] })
    (fun s => Ab.and (Ab.block _ _ _) (Ab.and (Ab.below hb0.size w (Nat.le_refl _)) (Ab.pure _ _))) (fun _ _ => Ab.and (Ab.block _ _ _) (Ab.and (Ab.below hb0.size w (Nat.le_refl _)) (Ab.pure _ _))) (fun _ _ => Ab.ex fun B => Ab.and (Ab.block _ _ _) (Ab.pure _ _)) ⟨⟨hbr, fun h => h⟩, hb0, rfl⟩ ?assign ?body ?done ?stop
  case assign =>
    intro l M pre x W K hi hM hok hK
    simp only [ndEnc, tv]
    clear hb0 hbr hi
    gi_wp2
    refine hK _ _ (Turns.alloc _ _ _) ⟨W.heap.size, ⟨World.alloc_heap_new _ _, fun h => by have := (hM _ h).2; omega⟩, ?_⟩
    simp [tv]
  case body =>
    rintro l M pre x a' W ⟨⟨hr, hrM⟩, hbl, hall⟩ hM hle hok ⟨B, ⟨hB, hBM⟩, rfl⟩
    have HOK := Lib.hid hok; have HALL := Lib.hid hall; have HBL := Lib.hid hbl; have HRM := Lib.hid hrM; have HM' := Lib.hid hM
    have hlt := (Array.getElem?_eq_some_iff.1 hr).1
    have HLT := Lib.hid hlt
    have h31 := right_any x.t x.a x.cap W hok.2.2.2.1
    unfold tv at h31 ⊢
    obtain ⟨xk, hxk⟩ : ∃ xk, x.t.kind = xk := ⟨_, rfl⟩
    obtain ⟨xn, hxn⟩ : ∃ xk, x.t.num = xk := ⟨_, rfl⟩
    obtain ⟨xm, hxm⟩ : ∃ xk, x.t.kids.length = xk := ⟨_, rfl⟩
    rw [hxk, hxn, hxm] at h31 hB ⊢
    have cB : W.cell? ⟨B, 0, none⟩ = some (.int .i64 xk) := cell_box hB rfl rfl
    have cB1 : W.cell? ⟨B, 1, none⟩ = some (.int .i64 xn) := cell_box hB rfl rfl
    have cB2 : W.cell? ⟨B, 2, none⟩ = some (.slice x.a xm x.cap) := cell_box hB rfl rfl
    have HR := Lib.hid hr; have H31 := Lib.hid h31
    have HXK := Lib.hid hxk; have HXN := Lib.hid hxn; have HXM := Lib.hid hxm
    clear hr hB hrM hBM hM hle hok hall hbl hb0 hbr hlt h31 hxk hxn hxm
    cases hn : Tp.nodeRight xk xn xm with
    | false =>
      have hw : Tp.right t = false := by
        obtain ⟨⟨rest, hrest⟩, _⟩ := HOK.out
        have := Tp.pre_right t 1
        rw [← this, ← hrest, List.all_append, List.all_cons]
        simp [Nd.key, HXK.out, HXN.out, HXM.out, hn]
      have HW := Lib.hid hw; clear hw
      rw [hn] at H31
      have HN' := Lib.hid hn; clear hn
      gi_wp2_with (refine ⟨trivial, ?_⟩; gi_at_call 126; refine (CallsIn.inRound l (callsIn_wide.2 H31.out)).mono ?_; rintro e w1 ⟨rfl, hb1⟩; have hr1 := (hb1.block _ HLT.out).trans HR.out; have f1 : w1.frozen? ⟨w.heap.size + 1, 0, none⟩ = false := Boxed.frozen hr1; have c1 : w1.cell? ⟨w.heap.size + 1, 0, none⟩ = some (.int .i64 0) := cell_box hr1 rfl rfl)
      have hT : Turns (fun k => w.heap.size ≤ k ∧ ¬ M k) W w1 := ⟨hb1.os, hb1.tape, hb1.output, hb1.size, fun k hk _ => hb1.block k hk⟩
      exact ⟨hT.trans (Turns.setCell _ _ _ ⟨by simp, HRM.out⟩), ⟨Boxed.set _ hr1, HRM.out⟩, (HBL.out.trans (hb1.mono HBL.out.size)).setCell (by simp <;> omega) _, rfl, HW.out⟩
    | true =>
      rw [hn] at H31
      have HN' := Lib.hid hn; clear hn
      gi_wp2_with (refine ⟨trivial, ?_⟩; gi_at_call 126; refine (CallsIn.inRound l (callsIn_wide.2 H31.out)).mono ?_; rintro e w1 ⟨rfl, hb1⟩)
      refine ⟨⟨hb1.os, hb1.tape, hb1.output, hb1.size, fun k hk _ => hb1.block k hk⟩, ⟨(hb1.block _ HLT.out).trans HR.out, HRM.out⟩, HBL.out.trans (hb1.mono HBL.out.size), ?_⟩
      rw [keys_snoc, List.all_append, HALL.out]
      simp [HXK.out, HXN.out, HXM.out, HN'.out]
  case done =>
    rintro D M xs W hD hS ⟨⟨hr, hrM⟩, hbl, hall⟩ hK
    have cr : W.cell? ⟨w.heap.size + 1, 0, none⟩ = some (.int .i64 0) := cell_box hr rfl rfl
    have fr : W.frozen? ⟨w.heap.size + 1, 0, none⟩ = false := Boxed.frozen hr
    have hne : w.heap.size + 1 ≠ D := by simp at hD; omega
    have hK' : (W.setCell ⟨w.heap.size + 1, 0, none⟩ (.int .i64 0)).heap[D]? = some (.deferred (some [])) := (Below.heap_setCell _ _ _ D (fun e => hne e.symm)).trans hK
    have hr' : ((W.setCell ⟨w.heap.size + 1, 0, none⟩ (.int .i64 0)).putObj D (.deferred none)).heap[w.heap.size + 1]? = some (.cells #[.int .i64 0] 45) := (World.putObj_heap_other hne).trans (Boxed.set _ hr)
    have hwo : Tp.right t = true := by
      rw [show xs.map Nd.key = Tp.pre t 1 from hS, Tp.pre_right] at hall; exact hall
    have HR' := Lib.hid hr'; have HBL := Lib.hid hbl; have HWO := Lib.hid hwo
    clear hr hbr hall hr' hbl hwo
    gi_wp2
    refine ⟨by simp, .inl ⟨_, _, rfl, run_takeDeferred hK', ?_⟩⟩
    have hc5 := cell_box HR'.out rfl (i := 0) rfl
    refine ⟨.int .i64 0, ?_, by rw [HWO.out]; rfl, ?_⟩
    · simp [results, Try.f85, go_sem, hc5]
    · exact ((Turns.setCell (M := fun k => w.heap.size ≤ k) W ⟨w.heap.size + 1, 0, none⟩ _ (by simp <;> omega)).trans (Turns.putObj _ D _ (by simp at hD; omega))).below HBL.out (fun _ h => h) HBL.out.size
  case stop =>
    rintro D M c pre W hD ⟨⟨hr, hrM⟩, hbl, rfl, hwo⟩ hK
    have hne : w.heap.size + 1 ≠ D := by simp at hD; omega
    have hr' : (W.putObj D (.deferred none)).heap[w.heap.size + 1]? = some (.cells #[.int .i64 1] 45) := (World.putObj_heap_other hne).trans hr
    have HR' := Lib.hid hr'; have HBL := Lib.hid hbl; have HWO := Lib.hid hwo
    clear hr hbr hr' hbl hwo
    gi_wp2
    refine ⟨by simp, .inl ⟨_, _, rfl, run_takeDeferred hK, ?_⟩⟩
    have hc5 := cell_box HR'.out rfl (i := 0) rfl
    refine ⟨.int .i64 1, ?_, by rw [HWO.out]; rfl, ?_⟩
    · simp [results, Try.f85, go_sem, hc5]
    · exact (Turns.putObj (M := fun k => w.heap.size ≤ k) _ D _ (by simp at hD; omega)).below HBL.out (fun _ h => h) HBL.out.size
end Go.Proofs.Ytaaapdfdedknfaa

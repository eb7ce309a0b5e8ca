/- typ.nodes; typ.Size, typ.Depth. -/
import Derived.Test.YtlmcklicnmbhdaaTyO
namespace Go.Proofs.Ytlmcklicnmbhdaa
open Go Go.RowKit Go.Shelf
open Tp (T)

attribute [local go_sem] Oper.semAt_some

/-- The iterator's contract. -/
theorem nodes_seq (t : T) (hsz : Tp.size t ≤ 10000) (n₀ Bt : Nat) (a0 : Option Addr) (cap0 : Nat) (w : World) (hn₀ : n₀ ≤ w.heap.size) (hty : TyAt (LT n₀) w t a0 cap0) (hb : w.heap[Bt]? = some (.cells #[.int .i64 t.kind, .int .i64 t.num, .slice a0 t.kids.length cap0] 24)) :
    SeqMine Try.prog 35 #[.pointer (some ⟨Bt, 0, none⟩)] ndEnc (ndAll t) (ndOk t) n₀ w := fun l J Jx W hW hJ hJx hY h0 => by
  have hlt : Bt < w.heap.size := (Array.getElem?_eq_some_iff.1 hb).1
  have hb' := hW.block Bt hlt
  exact callsIn_wide.1 (nodes_walk t hsz n₀ Bt l a0 cap0 J Jx W hJ hJx hY h0 (Nat.le_trans hn₀ hW.size) (hty.below hW (fun b h => Nat.lt_of_lt_of_le h hn₀) (fun _ h => h)) (cell_box hb hb' rfl) (cell_box hb hb' rfl) (cell_box hb hb' rfl))

theorem nd_len {t : T} {pre : List Nd} {x : Nd} (h : ndOk t pre x) (ht : Tp.size t ≤ 10000) : (pre.length : Int) ≤ 10000 := by
  obtain ⟨⟨rest, hr⟩, _⟩ := h
  have := congrArg List.length hr
  rw [List.length_append, List.length_map, List.length_cons, Tp.pre_length] at this
  omega

set_option maxHeartbeats 1000000 in
theorem nodes_any (t : T) (a : Option Addr) (cap : Nat) (w : World) :
    Calls Try.prog 30 #[tv t a cap] w fun e w' => e = .returned (.func (.func 35) #[] #[.pointer (some ⟨w.heap.size, 0, none⟩)]) ∧ w' = w.alloc (.cells #[.int .i64 t.kind, .int .i64 t.num, .slice a t.kids.length cap] 24) := by
  unfold tv
  go_enter Try.func30, Try.ntmps30
  go_wp2
  go_ret
  exact ⟨rfl, rfl⟩

set_option maxRecDepth 100000 in
set_option maxHeartbeats 2000000 in
theorem size_any (t : T) (a : Option Addr) (cap : Nat) (w : World) (hsz : Tp.size t ≤ 10000) (hty : TyAt (LT w.heap.size) w t a cap) :
    Calls Try.prog 14 #[tv t a cap] w fun e w' => e = .returned (.int .i64 (Tp.size t : Int)) ∧ Below w.heap.size w w' := by
  refine callsIn_wide (n := 9) |>.1 ?_
  have HTY := Lib.hid hty; clear hty
  obtain ⟨k0, hk0⟩ : ∃ k0, t.kind = k0 := ⟨_, rfl⟩
  obtain ⟨n0, hn0⟩ : ∃ n0, t.num = n0 := ⟨_, rfl⟩
  obtain ⟨m0, hm0⟩ : ∃ m0, t.kids.length = m0 := ⟨_, rfl⟩
  unfold tv
  have h30 := fun w => nodes_any t a cap w
  unfold tv at h30
  rw [hk0, hn0, hm0] at h30 ⊢
  have HK := Lib.hid hk0; have HN := Lib.hid hn0; have HM := Lib.hid hm0; have H30 := Lib.hid h30
  clear hk0 hn0 hm0 h30
  refine callsIn_of_wp_marks Try.func14 rfl trivial ?_ rfl
  simp only [Try.ntmps14, List.size_toArray, List.length_cons, List.length_nil, Nat.reduceAdd, Nat.reduceSub, Array.replicate_succ, Array.replicate_zero, List.push_toArray, List.append_toArray, List.nil_append, List.cons_append]
  gi_wp2_with (refine ⟨trivial, ?_⟩; gi_at_call 30; refine (callsIn_wide.2 (H30.out _)).mono ?_; rintro e w' ⟨rfl, rfl⟩)
  have hb0 : Below w.heap.size w (((w.alloc (.cells #[.int .i64 k0, .int .i64 n0, .slice a m0 cap] 24)).alloc (.cells #[.int .i64 0] 3)).alloc (.cells #[.int .i64 k0, .int .i64 n0, .slice a m0 cap] 24)) := (((Below.refl _ _).alloc (Nat.le_refl _) _).alloc (by simp) _).alloc (by simp; omega) _
  have hbx : (((w.alloc (.cells #[.int .i64 k0, .int .i64 n0, .slice a m0 cap] 24)).alloc (.cells #[.int .i64 0] 3)).alloc (.cells #[.int .i64 k0, .int .i64 n0, .slice a m0 cap] 24)).heap[w.heap.size + 1]? = some (.cells #[.int .i64 0] 3) := (Below.heap_alloc _ _ _ (by simp)).trans (box2 _ _ _ _ _)
  refine wpIn_range_mine (gf := 35) (lb := #[.pointer (some ⟨w.heap.size + 1 + 1, 0, none⟩)]) rfl (enters_of Try.func35 (by kernel_rfl) rfl)
    (nodes_seq t hsz w.heap.size (w.heap.size + 1 + 1) a cap _ hb0.size (HTY.out.below hb0 (fun _ h => h) (fun _ h => h)) (by rw [HK.out, HN.out, HM.out]; have := World.alloc_heap_new ((w.alloc (.cells #[.int .i64 k0, .int .i64 n0, .slice a m0 cap] 24)).alloc (.cells #[.int .i64 0] 3)) (.cells #[.int .i64 k0, .int .i64 n0, .slice a m0 cap] 24); simpa using this))
    (Below.refl _ _) hb0.size (fun _ => rfl)
    (fun M pre W => (W.heap[w.heap.size + 1]? = some (.cells #[.int .i64 (pre.length : Int)] 3) ∧ ¬ M (w.heap.size + 1)) ∧ Below w.heap.size w W) (fun _ _ _ _ => False)
    (fun x a' _ _ => a' = { tmps := #[.agg #[.int .i64 k0, .int .i64 n0, .slice a m0 cap], .pointer (some ⟨w.heap.size, 0, none⟩), .int .i64 0, .pointer (some ⟨w.heap.size + 1, 0, none⟩), .agg #[.int .i64 k0, .int .i64 n0, .slice a m0 cap], .func (.func 35) #[] #[.pointer (some ⟨w.heap.size + 1 + 1, 0, none⟩)], tv x.t x.a x.cap, .int .i64 (x.d : Int), undef, undef, undef], defers := [] })
    (fun s => Ab.and (Ab.block _ _ _) (Ab.below hb0.size w (Nat.le_refl _))) (fun _ _ => Ab.pure _ _) (fun _ _ => Ab.pure _ _) ⟨⟨hbx, fun h => h⟩, hb0⟩ ?assign ?body ?done ?stop
  case assign =>
    intro l M pre x W K hi hM hok hK
    gi_wp2
    exact hK _ _ (Turns.refl _ _) (by simp [ndEnc])
  case body =>
    rintro l M pre x a' W ⟨⟨hbx', hnM⟩, hbl⟩ hM hle hok rfl
    have hlen := nd_len hok hsz
    have c0 : W.cell? ⟨w.heap.size + 1, 0, none⟩ = some (.int .i64 (pre.length : Int)) := cell_box hbx' rfl rfl
    have f0 : W.frozen? ⟨w.heap.size + 1, 0, none⟩ = false := Boxed.frozen hbx'
    have HBX := Lib.hid hbx'; have HNM := Lib.hid hnM; have HBL := Lib.hid hbl
    clear hbx' hnM hbl hM hle hok hb0 hbx
    gi_wp2
    exact ⟨Turns.setCell _ _ _ ⟨by simp, HNM.out⟩, ⟨by rw [List.length_append]; exact Boxed.set _ HBX.out, HNM.out⟩, HBL.out.setCell (by simp) _⟩
  case done =>
    rintro D M xs W hD hS ⟨⟨hbx', hnM⟩, hbl⟩ hK
    have c0 : W.cell? ⟨w.heap.size + 1, 0, none⟩ = some (.int .i64 (xs.length : Int)) := cell_box hbx' rfl rfl
    have hl : xs.length = Tp.size t := by have := congrArg List.length hS; rw [List.length_map, Tp.pre_length] at this; exact this
    rw [hl] at c0
    clear hbx hbx'
    gi_wp2
    refine ⟨by simp, .inl ⟨_, _, rfl, run_takeDeferred hK, ?_⟩⟩
    exact ⟨_, results_tmp rfl _ _ _, rfl, (Turns.putObj (M := fun k => w.heap.size ≤ k) W D _ (by simp at hD; omega)).below hbl (fun _ h => h) hbl.size⟩
  case stop =>
    rintro D M c pre W hD h _
    exact h.elim
end Go.Proofs.Ytlmcklicnmbhdaa

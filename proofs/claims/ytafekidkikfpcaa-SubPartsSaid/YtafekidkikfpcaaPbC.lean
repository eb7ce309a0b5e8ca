/- prec.right, prec.Below, walked. -/
import Derived.Test.YtafekidkikfpcaaPbB
namespace Go.Proofs.Ytafekidkikfpcaa
open Go Go.RowKit
open Tp (T)

theorem ck_any {t : T} {k n : Int} {m : Nat} {a : Option Addr} {c : Nat} {w : World} (hv : TV t k n m) (ht : TyAt (LT w.heap.size) w t a c) (hs : Tp.size t ≤ 10000) :
    Calls Try.prog 34 #[.agg #[.int .i64 k, .int .i64 n, .slice a m c]] w fun e w' => e = .returned (.int .i64 (errOf (Tp.right t))) ∧ Below w.heap.size w w' := by
  rw [← tv_of hv]
  exact check_any t a c w hs ht
set_option maxRecDepth 100000 in
theorem pright_any {t : T} {k n : Int} {m : Nat} {a : Option Addr} {c : Nat} {w : World} (hv : TV t k n m) (ht : TyAt (LT w.heap.size) w t a c) (hs : Tp.size t ≤ 10000) :
    Calls Try.prog 32 #[.agg #[.int .i64 k, .int .i64 n, .slice a m c]] w fun e w' => e = .returned (.bool (Tp.right t)) ∧ Below w.heap.size w w' := by
  obtain ⟨W1, hW1⟩ : ∃ W, w.alloc (.cells #[.int .i64 k, .int .i64 n, .slice a m c] 24) = W := ⟨_, rfl⟩
  have hb1 : Below w.heap.size w W1 := by rw [← hW1]; exact (Below.refl _ _).alloc (Nat.le_refl _) _
  have hbx : BoxT W1 w.heap.size t k n m a c := ⟨hv, by rw [← hW1]; exact World.alloc_heap_new w _, ty_later ht hb1⟩
  have hc := ck_any hbx.says hbx.ty hs
  obtain ⟨c0, c1, c2⟩ := hbx.cells
  obtain ⟨r, hr⟩ : ∃ r, Tp.right t = r := ⟨_, rfl⟩
  rw [hr] at hc ⊢
  have HC := Lib.hid hc; have HW1 := Lib.hid hW1; have HB1 := Lib.hid hb1
  clear hc hW1 hb1 hbx hv ht hs hr
  go_enter Try.func32, Try.ntmps32
  go_upto_region 1 with fail
  rw [HW1.out]
  go_wp2_with fail
  refine HC.out.mono ?_
  clear c0 c1 c2
  rintro e w2 ⟨rfl, hb⟩
  have HB2 := Lib.hid (HB1.out.tr hb (Nat.le_refl _)); clear hb
  cases r with
  | true =>
    have h0 : errOf true = 0 := rfl
    rw [h0]
    go_wp2_with fail
    go_ret
    exact ⟨rfl, HB2.out⟩
  | false =>
    have h0 : errOf false = 1 := rfl
    rw [h0]
    go_wp2_with fail
    go_ret
    exact ⟨rfl, HB2.out⟩
set_option maxRecDepth 100000 in
set_option maxHeartbeats 1000000 in
theorem bl_any {t u : T} {k n k' n' : Int} {m m' : Nat} {a a' : Option Addr} {c c' : Nat} {w : World} (hv : TV t k n m) (hv' : TV u k' n' m') (ht : TyAt (LT w.heap.size) w t a c) (hu : TyAt (LT w.heap.size) w u a' c') (hs : Tp.size t ≤ 10000) (hs' : Tp.size u ≤ 10000) :
    Calls Try.prog 20 #[.agg #[.int .i64 k, .int .i64 n, .slice a m c], .agg #[.int .i64 k', .int .i64 n', .slice a' m' c']] w fun e w' => e = .returned (.bool (Tp.bl t u)) ∧ Below w.heap.size w w' := by
  obtain ⟨W2, hW2⟩ : ∃ W2, (w.alloc (.cells #[.int .i64 k, .int .i64 n, .slice a m c] 24)).alloc (.cells #[.int .i64 k', .int .i64 n', .slice a' m' c'] 24) = W2 := ⟨_, rfl⟩
  have hb2 : Below w.heap.size w W2 := by rw [← hW2]; exact ((Below.refl _ _).alloc (Nat.le_refl _) _).alloc (by simp) _
  have bx : BoxT W2 w.heap.size t k n m a c := ⟨hv, by rw [← hW2]; exact box1 _ _ _ _ _, ty_later ht hb2⟩
  have bu : BoxT W2 (w.heap.size + 1) u k' n' m' a' c' := ⟨hv', by rw [← hW2]; exact box2 _ _ _ _ _, ty_later hu hb2⟩
  have hct := fun x (h : Below W2.heap.size W2 x) => pright_any (w := x) (bx.later h).says (bx.later h).ty hs
  have hcu := fun x (h : Below W2.heap.size W2 x) => pright_any (w := x) (bu.later h).says (bu.later h).ty hs'
  have hcb := fun x (h : Below W2.heap.size W2 x) (h1 : Tp.right t = true) (h2 : Tp.right u = true) => pbelow_any t u k n m a c k' n' m' a' c' x (bx.later h).says (bu.later h).says hs h1 h2 (bx.later h).ty (bu.later h).ty
  have HCELL := Lib.hid (fun x (h : Below W2.heap.size W2 x) => (⟨(bx.later h).cells, (bu.later h).cells⟩ : _ ∧ _))
  obtain ⟨⟨c0, c1, c2⟩, ⟨d0, d1, d2⟩⟩ := HCELL.out W2 (Below.refl _ _)
  unfold Tp.bl
  obtain ⟨r, hr⟩ : ∃ r, Tp.right t = r := ⟨_, rfl⟩
  obtain ⟨r', hr'⟩ : ∃ r, Tp.right u = r := ⟨_, rfl⟩
  rw [hr] at hct hcb ⊢
  rw [hr'] at hcu hcb ⊢
  have HCT := Lib.hid hct; have HCU := Lib.hid hcu; have HCB := Lib.hid hcb; have HW2 := Lib.hid hW2; have HB2 := Lib.hid hb2
  clear hct hcu hcb hW2 hb2 bx bu hv hv' ht hu hs hs' hr hr'
  go_enter Try.func20, Try.ntmps20
  go_upto_region 1 with fail
  rw [HW2.out]
  cases r with
  | false =>
    go_wp2_with (go_at_call 32; with_reducible refine (HCT.out _ (Below.refl _ _)).mono ?_; clear c0 c1 c2 d0 d1 d2; rintro e w3 ⟨rfl, hb⟩; have HB3 := Lib.hid hb; clear hb; obtain ⟨⟨c0, c1, c2⟩, ⟨d0, d1, d2⟩⟩ := HCELL.out w3 HB3.out)
    go_ret
    exact ⟨rfl, HB2.out.tr HB3.out (Nat.le_refl _)⟩
  | true =>
    cases r' with
    | false =>
      go_wp2_with (first | (go_at_call 32; with_reducible refine (HCT.out _ (Below.refl _ _)).mono ?_; clear c0 c1 c2 d0 d1 d2; rintro e w3 ⟨rfl, hb⟩; have HB3 := Lib.hid hb; clear hb; obtain ⟨⟨c0, c1, c2⟩, ⟨d0, d1, d2⟩⟩ := HCELL.out w3 HB3.out) | (go_at_call 32; with_reducible refine (HCU.out _ HB3.out).mono ?_; clear c0 c1 c2 d0 d1 d2; rintro e w4 ⟨rfl, hb⟩; have HB4 := Lib.hid (HB3.out.tr hb (Nat.le_refl _)); clear hb; obtain ⟨⟨c0, c1, c2⟩, ⟨d0, d1, d2⟩⟩ := HCELL.out w4 HB4.out))
      go_ret
      exact ⟨rfl, HB2.out.tr HB4.out (Nat.le_refl _)⟩
    | true =>
      go_wp2_with (first | (go_at_call 32; with_reducible refine (HCT.out _ (Below.refl _ _)).mono ?_; clear c0 c1 c2 d0 d1 d2; rintro e w3 ⟨rfl, hb⟩; have HB3 := Lib.hid hb; clear hb; obtain ⟨⟨c0, c1, c2⟩, ⟨d0, d1, d2⟩⟩ := HCELL.out w3 HB3.out) | (go_at_call 32; with_reducible refine (HCU.out _ HB3.out).mono ?_; clear c0 c1 c2 d0 d1 d2; rintro e w4 ⟨rfl, hb⟩; have HB4 := Lib.hid (HB3.out.tr hb (Nat.le_refl _)); clear hb; obtain ⟨⟨c0, c1, c2⟩, ⟨d0, d1, d2⟩⟩ := HCELL.out w4 HB4.out) | (go_at_call 33; with_reducible refine (HCB.out _ HB4.out trivial trivial).mono ?_; clear c0 c1 c2 d0 d1 d2; rintro e w5 ⟨rfl, hb⟩; have HB5 := Lib.hid (HB4.out.tr hb (Nat.le_refl _)); clear hb))
      go_ret
      exact ⟨ret_boolT (by simp), HB2.out.tr HB5.out (Nat.le_refl _)⟩
end Go.Proofs.Ytafekidkikfpcaa

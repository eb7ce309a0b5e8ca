/- store.roots: its iterator. -/
import Derived.Test.YtaaapdfdedknfaaStL
namespace Go.Proofs.Ytaaapdfdedknfaa
open Go Go.RowKit Go.Shelf
open Tp (T)
open Sg (Of Rt Den Dens Alk Mkd trav travs rootOf kidsOf)
attribute [local go_sem] Oper.semAt_some
/-- The store while its roots are gone through: the marks alone may turn. -/
def StS (B s g cap : Nat) (L C : Int) (H0 : List SNd) (m : Int × List SNd) (w : World) : Prop := SV B s g cap L C m.1 w m.2 ∧ Alk H0 m.2 ∧ ∀ d ∈ m.2, d.c.met ≤ m.1
theorem StS.same {B s g cap : Nat} {L C : Int} {H0 : List SNd} (m : Int × List SNd) (A D : World) (h : StS B s g cap L C H0 m A) (hk : ∀ k, (k = s ∨ k = g) → D.heap[k]? = A.heap[k]?) : StS B s g cap L C H0 m D :=
  ⟨h.1.same (hk s (.inl rfl)) (hk g (.inr rfl)), h.2⟩
section
variable {B s g cap : Nat} {L C K : Int}
set_option maxRecDepth 100000 in
set_option maxHeartbeats 4000000 in
theorem roots_seq (H0 : List SNd) (t : T) (p : Nat) (hD : Den H0 t p) (hK : 0 ≤ K ∧ K < 4611686018427387904) (b1 b2 : Nat) (w : World) (c1 : w.heap[b1]? = some (.cells #[.pointer (some ⟨s, 0, none⟩)] 30)) (c2 : w.heap[b2]? = some (.cells #[.int .i64 (p : Int)] 3))
    (hm0 : ∀ d ∈ H0, d.c.met ≤ K) :
    SeqSto Try.prog 122 #[.pointer (some ⟨b1, 0, none⟩), .pointer (some ⟨b2, 0, none⟩)] (fun k => k = s ∨ k = g) (StS B s g cap L C H0) (fun Y r m => RndP (Tp.size t) H0 (trav H0 t p []) Y r ∧ m.1 = K + 1) (fun Y => Y = trav H0 t p []) (fun m => m.1 = K + 1) (K, H0) w := by
  intro l J Jx W hW hJ hJx hY hst hj
  obtain ⟨hsv, -, -⟩ := hst
  dsimp only at hsv
  have hb1 : b1 < w.heap.size := (Array.getElem?_eq_some_iff.1 c1).1
  have hb2 : b2 < w.heap.size := (Array.getElem?_eq_some_iff.1 c2).1
  have e1 := (hW.block b1 hb1).trans c1
  have e2 := (hW.block b2 hb2).trans c2
  have d1 : W.cell? ⟨b1, 0, none⟩ = some (.pointer (some ⟨s, 0, none⟩)) := cell_box e1 rfl rfl
  have d2 : W.cell? ⟨b2, 0, none⟩ = some (.int .i64 (p : Int)) := cell_box e2 rfl rfl
  have c3 := hsv.sbox.2.2.2
  have f3 : W.frozen? ⟨s, 3, none⟩ = false := IsC.frozen ⟨_, _, hsv.box⟩
  have hw : wrap64 (K + 1) = K + 1 := by unfold wrap64; omega
  have hne1 : b1 ≠ s := fun e => by rw [e, hsv.box] at e1; injection e1 with e1; injection e1 with _ h; exact absurd h (by decide)
  have hne2 : b2 ≠ s := fun e => by rw [e, hsv.box] at e2; injection e2 with e2; injection e2 with _ h; exact absurd h (by decide)
  obtain ⟨W1, hW1⟩ : ∃ x, W.setCell ⟨s, 3, none⟩ (.int .i64 (K + 1)) = x := ⟨_, rfl⟩
  have hsv1 : SV B s g cap L C (K + 1) W1 H0 := by rw [← hW1]; exact hsv.num 3 (K + 1) L C (K + 1) (.inr ⟨rfl, rfl, rfl, rfl⟩)
  have g1 : W1.cell? ⟨b1, 0, none⟩ = some (.pointer (some ⟨s, 0, none⟩)) := cell_box e1 (by rw [← hW1]; exact Below.heap_setCell _ _ _ b1 hne1) rfl
  have g2 : W1.cell? ⟨b2, 0, none⟩ = some (.int .i64 (p : Int)) := cell_box e2 (by rw [← hW1]; exact Below.heap_setCell _ _ _ b2 hne2) rfl
  have hj1 : J [] W1 := by rw [← hW1]; exact hJ [] W _ hj (Turns.setCell W ⟨s, 3, none⟩ _ (.inl rfl))
  have hwk := walk12_any (B := B) (s := s) (g := g) (cap := cap) (L := L) (C := C) (K := K + 1) (Tp.size t) l J Jx H0 (trav H0 t p []) hJ
    (fun Y r H V hjv hsvv hav hmv hrv => YieldAt.mono (hY Y r (K + 1, H) V hjv ⟨hsvv, hav, hmv⟩ ⟨hrv, rfl⟩) fun e V' h => h.elim (fun h => .inl ⟨h.1, h.2.1, h.2.2.1⟩) (fun h => .inr ⟨h.1, h.2.1, h.2.2.1⟩))
    (Tp.size t) t p [] (fun _ => False) H0 W1 (Nat.le_refl _) (by simp) hD (Alk.refl _) hsv1 ((Sg.Mkd.new hm0).iff fun i => by simp) (fun i u h => h.elim) (fun i h => h.elim) hj1 ⟨[], by simp⟩
  have HWK := Lib.hid hwk; have HW1 := Lib.hid hW1
  clear hwk hW1 hJ hJx hY hsv hsv1 hj hj1 hD hm0 e1 e2 c1 c2 hne1 hne2 hW hK
  go_enter Try.func122, Try.ntmps122
  go_upto_region 1 with fail
  rw [hw, HW1.out]
  clear d1 d2 c3 f3
  go_wp2_with fail
  refine HWK.out.mono ?_
  rintro e w7 ⟨H', hA, hsv, h⟩
  have HH := Lib.hid h
  clear h
  rcases HH.out with ⟨rfl, hm, hj⟩ | ⟨rfl, hm, Y', hj⟩
  · have HM := Lib.hid hm; have HJ := Lib.hid hj
    clear hm hj HH
    go_wp2_with fail
    go_end0
    exact ⟨⟨_, rfl⟩, (K + 1, H'), rfl, ⟨hsv, hA, HM.out.le⟩, .inl ⟨_, rfl, HJ.out⟩⟩
  · have HM := Lib.hid hm; have HJ := Lib.hid hj
    clear hm hj HH
    go_wp2_with fail
    go_end0
    exact ⟨⟨_, rfl⟩, (K + 1, H'), rfl, ⟨hsv, hA, HM.out⟩, .inr ⟨Y', HJ.out⟩⟩
end
/-- The iterator's value: two boxes of the call's own. -/
theorem roots12_any (s p : Nat) (w : World) : Calls Try.prog 80 #[.pointer (some ⟨s, 0, none⟩), .int .i64 (p : Int)] w fun e w' => e = .returned (.func (.func 122) #[] #[.pointer (some ⟨w.heap.size, 0, none⟩), .pointer (some ⟨w.heap.size + 1, 0, none⟩)]) ∧ w' = (w.alloc (.cells #[.pointer (some ⟨s, 0, none⟩)] 30)).alloc (.cells #[.int .i64 (p : Int)] 3) := by
  go_enter Try.func80, Try.ntmps80
  go_wp2_with fail
  go_ret
  exact ⟨by simp, rfl⟩
end Go.Proofs.Ytaaapdfdedknfaa

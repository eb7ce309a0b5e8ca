/- suretykeep.Type: a copy. -/
import Derived.Test.YtncdbbjkafgphaaTkA
namespace Go.Proofs.Ytncdbbjkafgphaa
open Go Go.RowKit
open Tp (T)

/-- A kid that has come back. -/
def KidPost (x : T) (wr : World) (e : Ending) (w' : World) : Prop := ∃ a2 c2, e = .returned (tv x a2 c2) ∧ TyAt (fun b => wr.heap.size ≤ b ∧ b < w'.heap.size) w' x a2 c2 ∧ Below wr.heap.size wr w'
theorem kidPost_ret {x : T} {wr : World} : ∀ e w', KidPost x wr e w' → ∃ v, e = .returned v := fun _ _ ⟨_, _, h, _⟩ => ⟨_, h⟩
/-- A box below the row's blocks lies as it lay. -/
theorem far_own {w w6 w7 : World} {o : Obj} {B n sz b : Nat} {e : TypeId} {v : Value} {xs : List Value} {bx : Obj} (hg : (w6.alloc o).grownBy w7 v.ownBlock) (h6 : Below w.heap.size w w6) (hb : w.heap[b]? = some bx) (hown : w.ownsRow B e sz v n xs) (hlt : b < B) : w7.heap[b]? = some bx := by
  have h1 := (Array.getElem?_eq_some_iff.1 hb).1
  have h2 := h6.size
  exact (hg.block b (by rw [World.size_alloc]; omega) (fun e => by have := (hown.lt _ e.symm).1; omega)).trans ((Below.heap_alloc _ _ _ (by omega)).trans ((h6.block b h1).trans hb))

set_option maxRecDepth 100000 in
set_option maxHeartbeats 4000000 in
theorem ktype_any : ∀ (n : Nat) (t : T) (a : Option Addr) (cap : Nat) (w : World), Tp.size t ≤ n → Tp.size t ≤ 1000000 → TyAt (LT w.heap.size) w t a cap →
    Calls Try.prog 12 #[tv t a cap] w (TyPost t w) := by
  intro n
  induction n with
  | zero => intro t a cap w h; have := Tp.size_pos t; omega
  | succ n ih =>
    intro t a cap w hn hs hty
    have hm10 : t.kids.length ≤ 1000000 := by have := Tp.length_le_sizes t.kids; have := size_kids t; omega
    have hi64 : I64 t.kind ∧ I64 t.num := ⟨hty.1, hty.2.1⟩
    have HI := Lib.hid hi64; clear hi64
    have HN := Lib.hid hn; have HS := Lib.hid hs; have HTY := Lib.hid hty; have IH := Lib.hid ih; clear hn hs hty ih
    obtain ⟨m, hm⟩ : ∃ m, t.kids.length = m := ⟨_, rfl⟩
    obtain ⟨kk, hkk⟩ : ∃ kk, t.kind = kk := ⟨_, rfl⟩
    obtain ⟨nn, hnn⟩ : ∃ kk, t.num = kk := ⟨_, rfl⟩
    unfold tv
    rw [hm] at hm10 ⊢
    rw [hkk, hnn]
    have HM := Lib.hid hm; have HKK := Lib.hid hkk; have HNN := Lib.hid hnn; clear hm hkk hnn
    go_enter Try.func12, Try.ntmps12
    go_wp2_with fail
    have hb0 : Below w.heap.size w (((w.alloc (.cells #[.int .i64 kk, .int .i64 nn, .slice a m cap] 24)).alloc (.cells #[.int .i64 0, .int .i64 0, .slice none 0 0] 24)).alloc (.cells #[.int .i64 kk, .int .i64 nn, .slice none 0 0] 24)) := (((Below.refl _ _).alloc (Nat.le_refl _) _).alloc (by simp) _).alloc (by simp <;> omega) _
    have hb1 : (((w.alloc (.cells #[.int .i64 kk, .int .i64 nn, .slice a m cap] 24)).alloc (.cells #[.int .i64 0, .int .i64 0, .slice none 0 0] 24)).alloc (.cells #[.int .i64 kk, .int .i64 nn, .slice none 0 0] 24)).heap[w.heap.size]? = some (.cells #[.int .i64 kk, .int .i64 nn, .slice a m cap] 24) := (Below.heap_alloc _ _ _ (by simp <;> omega)).trans (box1 _ _ _ _ _)
    have hb2 : (((w.alloc (.cells #[.int .i64 kk, .int .i64 nn, .slice a m cap] 24)).alloc (.cells #[.int .i64 0, .int .i64 0, .slice none 0 0] 24)).alloc (.cells #[.int .i64 kk, .int .i64 nn, .slice none 0 0] 24)).heap[w.heap.size + 1]? = some (.cells #[.int .i64 0, .int .i64 0, .slice none 0 0] 24) := (Below.heap_alloc _ _ _ (by simp)).trans (box2 _ _ _ _ _)
    have hb3 : (((w.alloc (.cells #[.int .i64 kk, .int .i64 nn, .slice a m cap] 24)).alloc (.cells #[.int .i64 0, .int .i64 0, .slice none 0 0] 24)).alloc (.cells #[.int .i64 kk, .int .i64 nn, .slice none 0 0] 24)).heap[w.heap.size + 1 + 1]? = some (.cells #[.int .i64 kk, .int .i64 nn, .slice none 0 0] 24) := by
      have := World.alloc_heap_new ((w.alloc (.cells #[.int .i64 kk, .int .i64 nn, .slice a m cap] 24)).alloc (.cells #[.int .i64 0, .int .i64 0, .slice none 0 0] 24)) (.cells #[.int .i64 kk, .int .i64 nn, .slice none 0 0] 24)
      rw [World.size_alloc, World.size_alloc] at this; exact this
    have H0 := Lib.hid (And.intro hb0 (And.intro hb1 (And.intro hb2 hb3)))
    clear hb0 hb1 hb2 hb3
    go_loopg [4] m (fun gk i wr => ∃ (k : Nat) (ks : List Ke) (v : Value), k ≤ m ∧ i = .int .i64 k ∧ ks.map Ke.t = t.kids.take k ∧ RowK (w.heap.size + 3) wr v ks ∧ wr.heap[w.heap.size]? = some (.cells #[.int .i64 kk, .int .i64 nn, .slice a m cap] 24) ∧ wr.heap[w.heap.size + 1]? = some (.cells #[.int .i64 0, .int .i64 0, .slice none 0 0] 24) ∧
      wr.heap[w.heap.size + 1 + 1]? = some (.cells #[.int .i64 kk, .int .i64 nn, v] 24) ∧ Below w.heap.size w wr ∧ w.heap.size + 3 ≤ wr.heap.size ∧ gk = m - k)
    case atStart => exact ⟨0, [], _, Nat.zero_le _, rfl, by simp, RowK.nil _ _, H0.out.2.1, H0.out.2.2.1, H0.out.2.2.2, H0.out.1, by simp, rfl⟩
    case round =>
      obtain ⟨k, ks, v, hk, rfl, hks, hrow, hbt, hbr, hbu, hbw, hsz, rfl⟩ := hrel
      have hkl : ks.length = k := by have := congrArg List.length hks; rw [List.length_map, List.length_take, HM.out] at this; omega
      obtain ⟨va, vcap, rfl⟩ := own_shapeT hrow.own
      rw [hkl] at hrow hbu
      have cu : wr.cell? ⟨w.heap.size + 1 + 1, 2, none⟩ = some (.slice va k vcap) := cell_box hbu rfl rfl
      have cu0 : wr.cell? ⟨w.heap.size + 1 + 1, 0, none⟩ = some (.int .i64 kk) := cell_box hbu rfl rfl
      have cu1 : wr.cell? ⟨w.heap.size + 1 + 1, 1, none⟩ = some (.int .i64 nn) := cell_box hbu rfl rfl
      have cr0 : wr.cell? ⟨w.heap.size + 1, 0, none⟩ = some (.int .i64 0) := cell_box hbr rfl rfl
      have cr1 : wr.cell? ⟨w.heap.size + 1, 1, none⟩ = some (.int .i64 0) := cell_box hbr rfl rfl
      have cr2 : wr.cell? ⟨w.heap.size + 1, 2, none⟩ = some (.slice none 0 0) := cell_box hbr rfl rfl
      have fr0 : ∀ j, wr.frozen? ⟨w.heap.size + 1, j, none⟩ = false := fun j => by simp [World.frozen?, hbr]
      have FR := Lib.hid fr0; clear fr0
      have fr0 := FR.out 0; have fr1 := FR.out 1; have fr2 := FR.out 2
      have ct : wr.cell? ⟨w.heap.size, 2, none⟩ = some (.slice a m cap) := cell_box hbt rfl rfl
      have HKS := Lib.hid hks; have HROW := Lib.hid hrow; have HBT := Lib.hid hbt; have HBR := Lib.hid hbr; have HBU := Lib.hid hbu; have HBW := Lib.hid hbw; have HSZ := Lib.hid hsz; have HKL := Lib.hid hkl
      clear hks hrow hbt hbr hbu hbw hsz hkl H0
      by_cases hlt : k < m
      · have hkk : k < t.kids.length := by rw [HM.out]; exact hlt
        obtain ⟨b, o, xa, xcap, rfl, hbn, hx, x0, x1, x2⟩ := kid_at HTY.out HBW.out (Nat.le_refl _) hkk
        have hsk := size_kid t.kids k hkk
        have hss := size_kids t
        have htk : t.kids.take (k + 1) = t.kids.take k ++ [t.kids[k]] := List.take_succ_eq_append_getElem hkk
        have hcall := IH.out t.kids[k] xa xcap wr.drew (by have := HN.out; omega) (by have := HS.out; omega) (hx.below ((Below.refl wr.heap.size wr).drew) (fun _ h => h) (fun _ h => h))
        obtain ⟨x, hx'⟩ : ∃ x, t.kids[k] = x := ⟨_, rfl⟩
        rw [hx'] at x0 x1 x2 hcall htk
        have hi64 : I64 x.kind ∧ I64 x.num := by rw [← hx']; exact ⟨hx.1, hx.2.1⟩
        obtain ⟨xk, hxk⟩ : ∃ z, x.kind = z := ⟨_, rfl⟩
        obtain ⟨xn, hxn⟩ : ∃ z, x.num = z := ⟨_, rfl⟩
        obtain ⟨xm, hxm⟩ : ∃ z, x.kids.length = z := ⟨_, rfl⟩
        rw [hxk] at x0; rw [hxn] at x1; rw [hxm] at x2
        have hcall2 : Calls Try.prog 12 #[.agg #[.int .i64 xk, .int .i64 xn, .slice xa xm xcap]] wr.drew (KidPost x wr) := by
          unfold tv at hcall
          rw [hxk, hxn, hxm] at hcall
          refine hcall.mono fun e w' hp => ?_
          obtain ⟨a2, c2, ks2, h1, h2, h3, h4, h5, h6⟩ := hp
          exact ⟨a2, c2, h1, TyPost.ty h2 h3 h4 h5, h6.os, h6.tape, h6.output, h6.size, h6.block⟩
        have HC := Lib.hid hcall2; have HTK := Lib.hid htk; have HXK := Lib.hid hxk; have HXN := Lib.hid hxn; have HXM := Lib.hid hxm
        clear hcall hcall2 htk hx hx' hsk hss hxk hxn hxm hi64
        obtain ⟨i0, hi, hz0, hz1, hz2⟩ := info_parts info_ty
        have hb40 := b40 (Nat.le_trans (Nat.le_of_lt hlt) hm10)
        have HB40 := Lib.hid hb40; clear hb40
        go_wp2_with fail
        go_region_law (first
          | (refine step_call ?_ 12 #[.tmp 23] #[24] ?_ #[.agg #[.int .i64 xk, .int .i64 xn, .slice xa xm xcap]] ?_ ?_ HC.out kidPost_ret ?_
             (· rfl)
             (· rfl)
             (· simp [Act.eval])
             (· exact enters_of Try.func12 (by kernel_rfl) rfl)
             rintro _ w6 ⟨a2, c2, h1, hty2, hb6⟩
             injection h1 with h1
             subst h1
             have hz6 : wr.heap.size ≤ w6.heap.size := hb6.size
             have cu6 : w6.cell? ⟨w.heap.size + 1 + 1, 2, none⟩ = some (.slice va k vcap) := cell_box HBU.out (hb6.block _ (Nat.lt_of_lt_of_le (by omega) HSZ.out)) rfl
             have lz6 : w.heap.size + 1 + 1 < w6.heap.size := cell_lt cu6
             have HTY2 := Lib.hid hty2
             have HB6 := Lib.hid hb6
             have HZ6 := Lib.hid hz6
             clear hty2 hb6 hz6
             unfold tv
             rw [HXK.out, HXN.out, HXM.out])
          | (refine step_append_lies _ ?_ (.tmp 18) (.tmp 25) 22 ?_ (w.heap.size + 3) 24 i0 (.agg #[.int .i64 0, .int .i64 0, .slice none 0 0]) 3 40 Try.underlying22 hi hz0 hz1 hz2 ?_ ?_ (.slice va k vcap) k (rowCells ks) ?_ ?_ ⟨w6.heap.size, 0, none⟩ 1 1 [.int .i64 xk, .int .i64 xn, .slice a2 xm c2] ?_ ?_ ?_ ?_ ?_ ?_ ?_ ?_ (w6.heap.size + 1) ?_ ?_
             (· rfl)
             (· rfl)
             (· rfl)
             (· decide)
             (· rfl)
             (· exact ((own_len (HROW.out.keep (fun y _ hy => HB6.out.block y hy) HZ6.out).own HKL.out).alloc _))
             (· rfl)
             (· rfl)
             (· exact World.news_of_block (World.alloc_heap_new w6 _))
             (· exact three_one _ _ _ _ _)
             (· decide)
             (· exact HB40.out.2)
             (· exact HB40.out.1)
             (· exact Nat.le_trans HSZ.out (Nat.le_trans HZ6.out (by simp)))
             (· simp)
             intro g2 cap2 w7 own7 gr7 ly7 _
             have lu7 := far_own gr7 HB6.out HBU.out HROW.out.own (by omega)
             have cu7 : w7.cell? ⟨w.heap.size + 1 + 1, 2, none⟩ = some (.slice va k vcap) := cell_box lu7 rfl rfl
             have fu7 : w7.frozen? ⟨w.heap.size + 1 + 1, 2, none⟩ = false := by simp [World.frozen?, lu7]
             have OW7 := Lib.hid own7
             have GR7 := Lib.hid gr7
             have LY7 := Lib.hid ly7
             have LU7 := Lib.hid lu7
             clear own7 gr7 ly7 lu7))
        all_goals
          have hrow7 := HROW.out.push HKL.out (e := ⟨x, a2, c2⟩) (fun y _ hy => HB6.out.block y hy) HZ6.out HSZ.out HTY2.out (by simp only [keCells, HXK.out, HXN.out, HXM.out]; exact OW7.out) GR7.out LY7.out
          have lt7 := far_own GR7.out HB6.out HBT.out HROW.out.own (by omega)
          have lr7 := far_own GR7.out HB6.out HBR.out HROW.out.own (by omega)
          have hb7 : Below w.heap.size w w7 := (HBW.out.trans (HB6.out.mono HBW.out.size)).trans ((((Below.refl w.heap.size w6).alloc (Nat.le_trans HBW.out.size HZ6.out) _)).grown GR7.out (by rw [World.size_alloc]; have := HBW.out.size; have := HZ6.out; omega) (fun y hy => by have := (HROW.out.own.lt y hy).1; omega))
          have hz7 : w.heap.size + 3 ≤ w7.heap.size := by have h1 := GR7.out.size; rw [World.size_alloc] at h1; have h2 := HZ6.out; have h3 := HSZ.out; omega
          have R7 := Lib.hid hrow7; have LT7 := Lib.hid lt7; have LR7 := Lib.hid lr7; have HB7 := Lib.hid hb7; have HZ7 := Lib.hid hz7
          clear hrow7 lt7 lr7 hb7 hz7
          go_wp2_with fail
          go_roundg (m - (k + 1))
          case measure => omega
          case rel =>
            refine ⟨k + 1, ks ++ [⟨x, a2, c2⟩], _, by omega, by go_num, ?_, R7.out.keep (fun y hy _ => Below.heap_setCell _ _ _ y (by dsimp only; omega)) (by rw [size_setCell]; exact Nat.le_refl _), ?_, ?_, set2 LU7.out, HB7.out.setCell (by dsimp only; omega) _, by rw [size_setCell]; exact HZ7.out, rfl⟩
            · rw [List.map_append, HKS.out, HTK.out]; rfl
            · exact (Below.heap_setCell _ _ _ _ (by dsimp only; omega)).trans LT7.out
            · exact (Below.heap_setCell _ _ _ _ (by dsimp only; omega)).trans LR7.out
      · obtain rfl : k = m := by omega
        have hall : ks.map Ke.t = t.kids := by rw [HKS.out, List.take_of_length_le (by rw [HM.out]; exact Nat.le_refl _)]
        have HALL := Lib.hid hall; clear hall
        have HSW := Lib.hid (show w.heap.size ≤ wr.heap.size from HBW.out.size)
        go_wp2_with fail
        refine bodyPost_ret (v := .agg #[.int .i64 kk, .int .i64 nn, .slice va k vcap]) (by simp [results, Try.f12, go_sem, cr0, cr1, cr2]) rfl ?_
        exact ⟨va, vcap, ks, by unfold tv; rw [HKK.out, HNN.out, HM.out], HALL.out, by rw [HM.out]; exact (HROW.out.keep (fun y hy _ => (Below.heap_setCell _ _ _ y (by dsimp only; omega)).trans ((Below.heap_setCell _ _ _ y (by dsimp only; omega)).trans (Below.heap_setCell _ _ _ y (by dsimp only; omega)))) (by rw [size_setCell, size_setCell, size_setCell]; exact Nat.le_refl _)).base (by omega), HI.out.1, HI.out.2,
          ((HBW.out.setCell (by dsimp only; omega) _).setCell (by dsimp only; omega) _).setCell (by dsimp only; omega) _⟩
end Go.Proofs.Ytncdbbjkafgphaa

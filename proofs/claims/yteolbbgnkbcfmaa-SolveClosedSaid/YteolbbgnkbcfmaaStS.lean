/- The sample of stage 12's laws, walked. -/
import Derived.Test.YteolbbgnkbcfmaaStR
import Derived.Test.YteolbbgnkbcfmaaSeqR
namespace Go.Proofs.Yteolbbgnkbcfmaa.Sg
theorem alk_link {A B : List Nd} (h : Alk A B) (p q : Nat) : Alk (link A p q) (link B p q) := by
  have key : ∀ X : List Nd, (link X p q).map bare = link (X.map bare) p q := fun X => by
    unfold Sg.link
    rw [List.map_map, List.map_map]
    refine List.map_congr_left fun d _ => ?_
    show bare (if d.up = p then { d with up := q } else d) = if d.up = p then { bare d with up := q } else bare d
    split <;> rfl
  unfold Alk
  rw [key, key, h]
theorem link_met {H : List Nd} {p q : Nat} {K : Int} (h : ∀ d ∈ H, d.c.met ≤ K) : ∀ d ∈ link H p q, d.c.met ≤ K := fun d hd => by
  unfold Sg.link at hd
  obtain ⟨e, he, rfl⟩ := List.mem_map.1 hd
  have := h e he
  split <;> exact this
theorem Alk.kinds {A B : List Nd} (h : Alk A B) {P : Int → Prop} (hA : ∀ d ∈ A, P d.c.kind) : ∀ d ∈ B, P d.c.kind := fun d hd => by
  obtain ⟨i, hi⟩ := List.mem_iff_getElem?.1 hd
  obtain ⟨e, he, _, hk, _⟩ := h.symm.get hi
  rw [← hk]; exact hA e (List.mem_of_getElem? he)
end Go.Proofs.Yteolbbgnkbcfmaa.Sg
namespace Go.Proofs.Yteolbbgnkbcfmaa
open Go Go.RowKit
open Tp (T)
open Sg (Of Rt Den Dens Alk Mkd trav travs rootOf kidsOf)
/-- The sample's nodes. -/
def X1 : List SNd := lvs 5 ++ [⟨⟨6, 2, 0, 0, 0⟩, 5⟩]
def X2 : List SNd := X1 ++ [⟨⟨7, 0, 5, 0, 0⟩, 6⟩]
def X3 : List SNd := X2 ++ [⟨⟨8, 0, 5, 99, 0⟩, 7⟩]
def X6 : List SNd := Sg.link X3 5 1
theorem den3 : Den X3 (.mk 7 0 [.mk 6 5 [], .mk 1 0 []]) 6 := ⟨_, _, rfl, rfl, rfl, rfl, rfl, 5, _, rfl, ⟨_, _, rfl, rfl, rfl, rfl, rfl, rfl⟩, 0, _, rfl, ⟨_, _, rfl, rfl, rfl, rfl, rfl, rfl⟩, rfl⟩
theorem den31 : Den X3 (.mk 2 0 []) 1 := ⟨_, _, rfl, rfl, rfl, rfl, rfl, rfl⟩
theorem den6 : Den X6 (.mk 7 0 [.mk 2 0 [], .mk 1 0 []]) 6 := ⟨_, _, rfl, rfl, rfl, rfl, rfl, 5, _, rfl, ⟨_, _, rfl, rfl, rfl, rfl, rfl, rfl⟩, 0, _, rfl, ⟨_, _, rfl, rfl, rfl, rfl, rfl, rfl⟩, rfl⟩
theorem den7 : Den X6 (.mk 8 0 [.mk 2 0 []]) 7 := ⟨_, _, rfl, rfl, rfl, rfl, rfl, 5, _, rfl, ⟨_, _, rfl, rfl, rfl, rfl, rfl, rfl⟩, rfl⟩
theorem five3 : 5 ∈ varsOf X3 (trav X3 (.mk 7 0 [.mk 6 5 [], .mk 1 0 []]) 6 []) := by decide
theorem kinds6 : ∀ d ∈ X6, I64 d.c.kind := fun d hd => by
  have h : ∀ d ∈ X6, 0 ≤ d.c.kind ∧ d.c.kind ≤ 9 := by decide
  have := h d hd
  unfold I64; omega
theorem met3 : ∀ d ∈ X3, d.c.met ≤ 0 := by decide
theorem kp_low {n : Nat} {s g : Nat} {w a b : World} (h : Below n w a) (hn : n ≤ w.heap.size) (hs : n ≤ s) (hg : n ≤ g) (hk : Kp a.heap.size (fun k => k = s ∨ k = g) a b) : Below n w b :=
  h.trans (hk.below (Nat.le_trans hn h.size) (fun k hk => by omega))
set_option maxRecDepth 100000 in
set_option maxHeartbeats 8000000 in
theorem wakes12_any (w : World) : Calls Try.prog 14 #[] w fun e w' => e = .returned (.bool true) ∧ Below w.heap.size w w' := by
  go_enter Try.func14, Try.ntmps14
  go_wp2_with fail
  refine (new12_any 8 w).mono ?_
  rintro e w1 ⟨g1, cap1, rfl, hsv, hb⟩
  rw [show min (max (8 : Int) 0) 65536 = 8 from by decide] at hsv
  have S1 := Lib.hid hsv; have B1 := Lib.hid hb; clear hsv hb
  go_wp2_with fail
  have hV : Calls Try.prog 24 #[.pointer (some ⟨w.heap.size, 0, none⟩), .int .i64 2] w1 fun e w' => e = .returned (.tuple #[.int .i64 5, .int .i64 0]) ∧ AddP w.heap.size w.heap.size g1 8 0 0 (lvs 5) ⟨6, 2, 0, 0, 0⟩ w1 w' := var12_any S1.out ⟨by decide, by decide, by decide, by decide⟩ 2 (by decide) (by decide)
  refine hV.mono ?_
  clear hV
  rintro e w2 ⟨rfl, g2, cap2, hsv, hk, -⟩
  have S2 := Lib.hid (show SV w.heap.size w.heap.size g2 cap2 8 1 0 w2 X1 from hsv)
  have B2 := Lib.hid (kp_low B1.out (Nat.le_refl _) (Nat.le_refl _) S1.out.far.1 hk)
  clear hsv hk
  go_wp2_with fail
  have hM : Calls Try.prog 53 #[.pointer (some ⟨w.heap.size, 0, none⟩), .int .i64 7, .int .i64 5, .int .i64 0] w2 fun e w' => e = .returned (.tuple #[.int .i64 6, .int .i64 0]) ∧ AddP w.heap.size w.heap.size g2 8 1 0 X1 ⟨7, 0, 5, 0, 0⟩ w2 w' := (make12_any S2.out ⟨by decide, by decide, by decide, by decide⟩ 7 5 0).mono (fun e w' h => by
    unfold MkP at h; rw [if_neg (by decide), if_neg (by decide)] at h; exact h)
  refine hM.mono ?_
  clear hM
  rintro e w3 ⟨rfl, g3, cap3, hsv, hk, -⟩
  have S3 := Lib.hid (show SV w.heap.size w.heap.size g3 cap3 8 2 0 w3 X2 from hsv)
  have B3 := Lib.hid (kp_low B2.out (Nat.le_refl _) (Nat.le_refl _) S2.out.far.1 hk)
  clear hsv hk
  go_wp2_with fail
  have hM : Calls Try.prog 53 #[.pointer (some ⟨w.heap.size, 0, none⟩), .int .i64 8, .int .i64 5, .int .i64 99] w3 fun e w' => e = .returned (.tuple #[.int .i64 7, .int .i64 0]) ∧ AddP w.heap.size w.heap.size g3 8 2 0 X2 ⟨8, 0, 5, 99, 0⟩ w3 w' := (make12_any S3.out ⟨by decide, by decide, by decide, by decide⟩ 8 5 99).mono (fun e w' h => by
    unfold MkP at h; rw [if_neg (by decide), if_neg (by decide)] at h; exact h)
  refine hM.mono ?_
  clear hM
  rintro e w4 ⟨rfl, g4, cap4, hsv, hk, -⟩
  have S4 := Lib.hid (show SV w.heap.size w.heap.size g4 cap4 8 3 0 w4 X3 from hsv)
  have B4 := Lib.hid (kp_low B3.out (Nat.le_refl _) (Nat.le_refl _) S3.out.far.1 hk)
  clear hsv hk
  go_wp2_with fail
  have hL : Calls Try.prog 54 #[.pointer (some ⟨w.heap.size, 0, none⟩), .int .i64 5, .int .i64 6] w4 (LkP w.heap.size w.heap.size g4 cap4 8 3 0 X3 5 6 6 2 (varsOf X3 (trav X3 (.mk 7 0 [.mk 6 5 [], .mk 1 0 []]) 6 [])) w4) := link12_any S4.out met3 ⟨by decide, by decide⟩ (p := 5) (q := 6) rfl rfl rfl den3 (by decide)
  refine hL.mono ?_
  clear hL
  intro e w5 h
  unfold LkP at h
  rw [if_neg (by decide)] at h
  obtain ⟨hk, H4, ha4, hm4, h⟩ := h
  rw [if_pos five3] at h
  obtain ⟨rfl, hsv⟩ := h
  have S5 := Lib.hid (show SV w.heap.size w.heap.size g4 cap4 8 3 1 w5 H4 from hsv)
  have B5 := Lib.hid (kp_low B4.out (Nat.le_refl _) (Nat.le_refl _) S4.out.far.1 hk)
  have A4 := Lib.hid ha4; have M4 := Lib.hid (show ∀ d ∈ H4, d.c.met ≤ 1 from hm4)
  clear hsv hk ha4 hm4
  go_wp2_with fail
  obtain ⟨e5, h5, u5, k5, l5, -⟩ := A4.out.get (i := 5) (d := ⟨⟨6, 2, 0, 0, 0⟩, 5⟩) rfl
  obtain ⟨e1, h1, u1, k1, -⟩ := A4.out.get (i := 1) (d := ⟨⟨2, 0, 0, 0, 0⟩, 1⟩) rfl
  dsimp only at u5 k5 l5 u1 k1
  have hv : varsOf H4 (trav H4 (.mk 2 0 []) 1 []) = [] := by
    have hr : rootOf H4 1 = 1 := by rw [← A4.out.root 1]; rfl
    simp [trav, travs, hr, varsOf, isV, h1, k1]
  have hL : Calls Try.prog 54 #[.pointer (some ⟨w.heap.size, 0, none⟩), .int .i64 5, .int .i64 1] w5 (LkP w.heap.size w.heap.size g4 cap4 8 3 1 H4 e5.up e1.up e5.c.kind e5.c.level (varsOf H4 (trav H4 (.mk 2 0 []) 1 [])) w5) := link12_any S5.out M4.out ⟨by decide, by decide⟩ (p := 5) (q := 1) h5 (by rw [u5]; exact h5) h1 (Den.alk A4.out den31) (by decide)
  rw [u5, u1, k5, l5, hv] at hL
  refine hL.mono ?_
  clear hL hv h5 u5 k5 l5 h1 u1 k1
  intro e w6 h
  unfold LkP at h
  rw [if_neg (by decide)] at h
  obtain ⟨hk, H5, ha5, hm5, h⟩ := h
  rw [if_neg (by decide)] at h
  obtain ⟨rfl, hsv⟩ := h
  obtain ⟨H6, hH6⟩ : ∃ X, Sg.link H5 5 1 = X := ⟨_, rfl⟩
  have S6 := Lib.hid (show SV w.heap.size w.heap.size g4 cap4 8 3 2 w6 H6 by rw [← hH6]; exact hsv)
  have B6 := Lib.hid (kp_low B5.out (Nat.le_refl _) (Nat.le_refl _) S5.out.far.1 hk)
  have A6 := Lib.hid (show Alk X6 H6 by rw [← hH6]; exact Sg.alk_link (A4.out.trans ha5) 5 1)
  have M6 := Lib.hid (show ∀ d ∈ H6, d.c.met ≤ 2 by rw [← hH6]; exact Sg.link_met hm5)
  clear hsv hk ha5 hm5 hH6
  go_wp2_with fail
  have hR : Calls Try.prog 25 #[.pointer (some ⟨w.heap.size, 0, none⟩), .int .i64 6] w6 (RdP w.heap.size w.heap.size g4 cap4 8 3 2 H6 (.mk 7 0 [.mk 2 0 [], .mk 1 0 []]) w6) := read12_any S6.out M6.out ⟨by decide, by decide⟩ ⟨by decide, by decide, by decide, by rw [← A6.out.len]; decide⟩ (p := 6) (Den.alk A6.out den6) (by decide) (A6.out.kinds kinds6)
  refine hR.mono ?_
  clear hR
  rintro e w7 ⟨hk, H7, ha7, hm7, h⟩
  rw [if_pos (by decide)] at h
  obtain ⟨⟨a, c, rfl, hty⟩, hsv⟩ := h
  dsimp only [tv, Tp.T.kind, Tp.T.num, Tp.T.kids, List.length]
  have S7 := Lib.hid (show SV w.heap.size w.heap.size g4 cap4 8 6 3 w7 H7 from hsv)
  have B7 := Lib.hid (kp_low B6.out (Nat.le_refl _) (Nat.le_refl _) S6.out.far.1 hk)
  have A7 := Lib.hid (A6.out.trans ha7); have M7 := Lib.hid (show ∀ d ∈ H7, d.c.met ≤ 3 from hm7); have T7 := Lib.hid hty
  clear hsv hk ha7 hm7 hty
  go_upto_region 10 with fail
  obtain ⟨W7, hW7⟩ : ∃ W, w7.alloc (.cells #[.int .i64 7, .int .i64 0, .slice a 2 c] 26) = W := ⟨_, rfl⟩
  rw [hW7]
  have hb7 : Below w7.heap.size w7 W7 := by rw [← hW7]; exact (Below.refl _ _).alloc (Nat.le_refl _) _
  have BX7 := Lib.hid (show W7.heap[w7.heap.size]? = some (.cells #[.int .i64 7, .int .i64 0, .slice a 2 c] 26) by rw [← hW7]; exact World.alloc_heap_new _ _)
  have hz7 : w7.heap.size < W7.heap.size := by rw [← hW7, World.size_alloc]; omega
  have HZ7 := Lib.hid hz7; have HS7 := Lib.hid (show g4 < w7.heap.size ∧ w.heap.size < w7.heap.size from ⟨S7.out.far.2.1, S7.out.far.2.2.1⟩)
  have S7' := Lib.hid (S7.out.below hb7); have B7' := Lib.hid (B7.out.trans (hb7.mono B7.out.size)); have T7' := Lib.hid (T7.out.below hb7 (fun _ h => h.2) (fun _ h => (⟨h.1, Nat.lt_trans h.2 hz7⟩ : w6.heap.size ≤ _ ∧ _ < W7.heap.size)))
  clear hW7 hb7 hz7 S7 B7 T7
  go_wp2_with fail
  have hR : Calls Try.prog 25 #[.pointer (some ⟨w.heap.size, 0, none⟩), .int .i64 7] W7 (RdP w.heap.size w.heap.size g4 cap4 8 6 3 H7 (.mk 8 0 [.mk 2 0 []]) W7) := read12_any S7'.out M7.out ⟨by decide, by decide⟩ ⟨by decide, by decide, by decide, by rw [← A7.out.len]; decide⟩ (p := 7) (Den.alk A7.out den7) (by decide) (A7.out.kinds kinds6)
  refine hR.mono ?_
  clear hR
  rintro e w8 ⟨hk, H8, ha8, hm8, h⟩
  rw [if_pos (by decide)] at h
  obtain ⟨⟨a2, c2, rfl, hty⟩, hsv⟩ := h
  dsimp only [tv, Tp.T.kind, Tp.T.num, Tp.T.kids, List.length]
  have hf6 := S6.out.far; have hz7 := HZ7.out; have hs7 := HS7.out
  have hne : ¬ (w7.heap.size = w.heap.size ∨ w7.heap.size = g4) := by omega
  have hbx8 := hk.heap BX7.out hz7 hne
  have hty8 := ty_same (G' := fun k => w6.heap.size ≤ k ∧ k < w8.heap.size) (fun k hk' => hk.block k hk'.2 (by have := hk'.1; omega)) (fun k hk' => ⟨hk'.1, Nat.lt_of_lt_of_le hk'.2 hk.size⟩) T7'.out
  obtain ⟨W8, hW8⟩ : ∃ W, w8.alloc (.cells #[.int .i64 8, .int .i64 0, .slice a2 1 c2] 26) = W := ⟨_, rfl⟩
  have hb8 : Below w8.heap.size w8 W8 := by rw [← hW8]; exact (Below.refl _ _).alloc (Nat.le_refl _) _
  have S8 := Lib.hid (SV.below (show SV w.heap.size w.heap.size g4 cap4 8 8 4 w8 H8 from hsv) hb8).drew
  have B8 := Lib.hid ((kp_low B7'.out (Nat.le_refl _) (Nat.le_refl _) S7'.out.far.1 hk).trans (hb8.mono (Nat.le_trans B7'.out.size hk.size))).drew
  have BX8 := Lib.hid (show W8.drew.heap[w7.heap.size]? = some (.cells #[.int .i64 7, .int .i64 0, .slice a 2 c] 26) from (hb8.block _ (Nat.lt_of_lt_of_le hz7 hk.size)).trans hbx8)
  have T8 := Lib.hid (show TyAt (fun k => w6.heap.size ≤ k ∧ k < W8.heap.size) W8.drew (.mk 7 0 [.mk 2 0 [], .mk 1 0 []]) a c from ty_same (fun k hk' => hb8.block k hk'.2) (fun k hk' => ⟨hk'.1, Nat.lt_of_lt_of_le hk'.2 hb8.size⟩) hty8)
  obtain ⟨d5, hd5, u5, -⟩ := (A7.out.trans ha8).get (i := 5) (d := ⟨⟨6, 2, 0, 0, 0⟩, 1⟩) rfl
  have HRT := Lib.hid (fun x (hx : SV w.heap.size w.heap.size g4 cap4 8 8 4 x H8) => show Calls Try.prog 29 #[.pointer (some ⟨w.heap.size, 0, none⟩), .int .i64 5] x fun e w' => e = .returned (.int .i64 1) ∧ SV w.heap.size w.heap.size g4 cap4 8 8 4 w' H8 ∧ Kp x.heap.size (fun k => k = g4) x w' from by have h9 := root12_any hx hd5; rw [u5] at h9; exact h9)
  have HNE := Lib.hid (show w7.heap.size ≠ g4 from fun e => hne (.inr e)); have HF6 := Lib.hid hf6; have HZ8 := Lib.hid (show w7.heap.size < W8.heap.size from Nat.lt_of_lt_of_le hz7 (Nat.le_trans hk.size hb8.size))
  have HW8 := Lib.hid hW8
  clear hsv ha8 hm8 hty hk hf6 hz7 hs7 hne hbx8 hty8 hb8 d5 hd5 u5 hW8
  go_upto_region 11 with fail
  rw [HW8.out]
  refine wp_region_rel (R := RS w.heap.size w.heap.size g4 cap4 8 8 4 H8) RS.refl RS.trans [(0, false), (0, false), (0, false), (0, false), (0, false), (0, false), (0, false), (0, false), (0, false), (0, false), (0, false), (0, false), (0, false), (0, false), (0, false), (0, false), (0, false), (0, false), (0, false), (0, false), (0, false), (0, false), (0, false), (0, false), (0, false), (0, false), (0, false), (0, false), (0, false), (0, false), (0, false), (0, false), (0, false), (0, true), (0, false), (0, false), (0, false), (0, false), (0, false), (0, false), (0, false), (0, false), (0, true), (0, true), (0, true), (0, true), (0, false), (0, false), (0, false), (0, false), (0, false), (0, false), (0, false), (0, true), (0, false), (0, false), (0, false)] (by kernel_rfl) (by kernel_rfl) (by kernel_rfl) (fun _ _ _ d _ h => by cases d <;> exact h) ?_
  repeat
    first
    | (first | with_reducible refine rp0 (fun K hK => ?_) | with_reducible refine rp1 (fun K hK => ?_) | with_reducible refine rp2 (fun K hK => ?_) | with_reducible refine rp3 (fun K hK => ?_) | with_reducible refine rp4 (fun K hK => ?_)
       go_simp
       first
       | (with_reducible refine hK _ _ ?_; clear hK K)
       | (with_reducible apply Exists.intro
          refine ⟨fun x hx => ?_, hK _ _ ?_⟩
          first
            | (with_reducible exact rfl)
          clear hK K))
    | (first | with_reducible refine rk0 ?_ (fun K hK => ?_) | with_reducible refine rk1 ?_ (fun K hK => ?_) | with_reducible refine rk2 ?_ (fun K hK => ?_) | with_reducible refine rk3 ?_ (fun K hK => ?_) | with_reducible refine rk4 ?_ (fun K hK => ?_)
       rfl
       go_simp
       with_reducible refine hK _ _ ?_
       clear hK K)
  first | with_reducible refine rc0 (fun K hK => ?_) | with_reducible refine rc1 (fun K hK => ?_) | with_reducible refine rc2 (fun K hK => ?_) | with_reducible refine rc3 (fun K hK => ?_) | with_reducible refine rc4 (fun K hK => ?_)
  go_simp
  refine (HRT.out _ S8.out).mono ?_
  rintro e w9 ⟨rfl, hsv, hk⟩
  refine ⟨⟨fun _ => hsv, hk⟩, hK _ _ ?_⟩
  clear hK K
  have S9 := Lib.hid hsv
  have B9 := Lib.hid (kp_low B8.out (Nat.le_refl _) (Nat.le_refl _) S8.out.far.1 (hk.mono (Nat.le_refl _) (fun _ _ h => .inr h)))
  have BX9 := Lib.hid (hk.heap BX8.out HZ8.out HNE.out)
  have T9 := Lib.hid (ty_same (G' := LT w9.heap.size) (fun k hk' => hk.block k hk'.2 (by have := hk'.1; have := HF6.out; omega)) (fun k hk' => Nat.lt_of_lt_of_le hk'.2 hk.size) T8.out)
  have HZ9 := Lib.hid (Nat.lt_of_lt_of_le HZ8.out hk.size)
  clear hsv hk
  repeat
    first
    | (first | with_reducible refine rp0 (fun K hK => ?_) | with_reducible refine rp1 (fun K hK => ?_) | with_reducible refine rp2 (fun K hK => ?_) | with_reducible refine rp3 (fun K hK => ?_) | with_reducible refine rp4 (fun K hK => ?_)
       go_simp
       first
       | (with_reducible refine hK _ _ ?_; clear hK K)
       | (with_reducible apply Exists.intro
          refine ⟨fun x hx => ?_, hK _ _ ?_⟩
          first
            | (with_reducible exact rfl)
            | (have y0 := cell_box (i := 0) (v := .int .i64 7) (hx.2.heap BX9.out HZ9.out HNE.out) rfl rfl; have y1 := cell_box (i := 1) (v := .int .i64 0) (hx.2.heap BX9.out HZ9.out HNE.out) rfl rfl; have y2 := cell_box (i := 2) (v := .slice a 2 c) (hx.2.heap BX9.out HZ9.out HNE.out) rfl rfl; go_simp; done)
            | (have y0 := cell_box (i := 0) (v := .int .i64 7) (hx.2.heap BX9.out HZ9.out HNE.out) rfl rfl; have y1 := cell_box (i := 1) (v := .int .i64 0) (hx.2.heap BX9.out HZ9.out HNE.out) rfl rfl; have y2 := cell_box (i := 2) (v := .slice a 2 c) (hx.2.heap BX9.out HZ9.out HNE.out) rfl rfl; go_simp; with_reducible exact rfl)
          clear hK K))
    | (first | with_reducible refine rk0 ?_ (fun K hK => ?_) | with_reducible refine rk1 ?_ (fun K hK => ?_) | with_reducible refine rk2 ?_ (fun K hK => ?_) | with_reducible refine rk3 ?_ (fun K hK => ?_) | with_reducible refine rk4 ?_ (fun K hK => ?_)
       rfl
       go_simp
       with_reducible refine hK _ _ ?_
       clear hK K)
  first | with_reducible refine rc0 (fun K hK => ?_) | with_reducible refine rc1 (fun K hK => ?_) | with_reducible refine rc2 (fun K hK => ?_) | with_reducible refine rc3 (fun K hK => ?_) | with_reducible refine rc4 (fun K hK => ?_)
  go_simp
  refine (leaf_any 2 w9).mono ?_
  rintro e w10 ⟨rfl, hb⟩
  refine ⟨⟨fun h => h.below hb, .of_below hb⟩, hK _ _ ?_⟩
  clear hK K
  have S10 := Lib.hid (S9.out.below hb); have B10 := Lib.hid (B9.out.trans (hb.mono B9.out.size)); have T10 := Lib.hid (T9.out.below hb (fun _ h => h) (fun _ h => Nat.lt_of_lt_of_le h hb.size))
  clear hb
  first | with_reducible refine rc0 (fun K hK => ?_) | with_reducible refine rc1 (fun K hK => ?_) | with_reducible refine rc2 (fun K hK => ?_) | with_reducible refine rc3 (fun K hK => ?_) | with_reducible refine rc4 (fun K hK => ?_)
  go_simp
  refine (leaf_any 1 w10).mono ?_
  rintro e w11 ⟨rfl, hb⟩
  refine ⟨⟨fun h => h.below hb, .of_below hb⟩, hK _ _ ?_⟩
  clear hK K
  have S11 := Lib.hid (S10.out.below hb); have B11 := Lib.hid (B10.out.trans (hb.mono B10.out.size)); have T11 := Lib.hid (T10.out.below hb (fun _ h => h) (fun _ h => Nat.lt_of_lt_of_le h hb.size))
  clear hb
  first | with_reducible refine rc0 (fun K hK => ?_) | with_reducible refine rc1 (fun K hK => ?_) | with_reducible refine rc2 (fun K hK => ?_) | with_reducible refine rc3 (fun K hK => ?_) | with_reducible refine rc4 (fun K hK => ?_)
  go_simp
  refine (two_any 7 (i64_nat (by decide) (by decide)) (.mk 2 0 []) 2 0 0 none 0 (.mk 1 0 []) 1 0 0 none 0 w11 ⟨rfl, rfl, rfl⟩ ⟨rfl, rfl, rfl⟩ (leaf_at (i64_nat (by decide) (by decide))) (leaf_at (i64_nat (by decide) (by decide)))).mono ?_
  rintro e w12 ⟨g9, rfl, ht, hb⟩
  dsimp only [Tp.T.kind, Tp.T.num]
  refine ⟨⟨fun h => h.below hb, .of_below hb⟩, hK _ _ ?_⟩
  clear hK K
  have S12 := Lib.hid (S11.out.below hb); have B12 := Lib.hid (B11.out.trans (hb.mono B11.out.size)); have T12 := Lib.hid (T11.out.below hb (fun _ h => h) (fun _ h => Nat.lt_of_lt_of_le h hb.size))
  clear hb
  first | with_reducible refine rc0 (fun K hK => ?_) | with_reducible refine rc1 (fun K hK => ?_) | with_reducible refine rc2 (fun K hK => ?_) | with_reducible refine rc3 (fun K hK => ?_) | with_reducible refine rc4 (fun K hK => ?_)
  go_simp
  refine (ks_any (t := .mk 7 0 [.mk 2 0 [], .mk 1 0 []]) (u := .mk 7 0 [.mk 2 0 [], .mk 1 0 []]) ⟨rfl, rfl, rfl⟩ ⟨rfl, rfl, rfl⟩ T12.out ht).mono ?_
  rintro e w13 ⟨rfl, hb⟩
  clear ht
  rw [show Tp.same (.mk 7 0 [.mk 2 0 [], .mk 1 0 []]) (.mk 7 0 [.mk 2 0 [], .mk 1 0 []]) = true from by decide]
  refine ⟨⟨fun h => h.below hb, .of_below hb⟩, hK _ _ ?_⟩
  clear hK K
  have S13 := Lib.hid (S12.out.below hb); have B13 := Lib.hid (B12.out.trans (hb.mono B12.out.size)); have T13 := Lib.hid (T12.out.below hb (fun _ h => h) (fun _ h => Nat.lt_of_lt_of_le h hb.size))
  clear hb
  repeat
    first
    | (first | with_reducible refine rp0 (fun K hK => ?_) | with_reducible refine rp1 (fun K hK => ?_) | with_reducible refine rp2 (fun K hK => ?_) | with_reducible refine rp3 (fun K hK => ?_) | with_reducible refine rp4 (fun K hK => ?_)
       go_simp
       first
       | (with_reducible refine hK _ _ ?_; clear hK K)
       | (with_reducible apply Exists.intro
          refine ⟨fun x hx => ?_, hK _ _ ?_⟩
          first
            | (with_reducible exact rfl)
          clear hK K))
    | (first | with_reducible refine rk0 ?_ (fun K hK => ?_) | with_reducible refine rk1 ?_ (fun K hK => ?_) | with_reducible refine rk2 ?_ (fun K hK => ?_) | with_reducible refine rk3 ?_ (fun K hK => ?_) | with_reducible refine rk4 ?_ (fun K hK => ?_)
       rfl
       go_simp
       with_reducible refine hK _ _ ?_
       clear hK K)
  first | with_reducible refine rc0 (fun K hK => ?_) | with_reducible refine rc1 (fun K hK => ?_) | with_reducible refine rc2 (fun K hK => ?_) | with_reducible refine rc3 (fun K hK => ?_) | with_reducible refine rc4 (fun K hK => ?_)
  go_simp
  refine (count12_any S13.out).mono ?_
  rintro e w14 ⟨rfl, rfl⟩
  refine ⟨RS.refl _, hK _ _ ?_⟩
  clear hK K
  repeat
    first
    | (first | with_reducible refine rp0 (fun K hK => ?_) | with_reducible refine rp1 (fun K hK => ?_) | with_reducible refine rp2 (fun K hK => ?_) | with_reducible refine rp3 (fun K hK => ?_) | with_reducible refine rp4 (fun K hK => ?_)
       go_simp
       first
       | (with_reducible refine hK _ _ ?_; clear hK K)
       | (with_reducible apply Exists.intro
          refine ⟨fun x hx => ?_, hK _ _ ?_⟩
          first
            | (with_reducible exact rfl)
          clear hK K))
    | (first | with_reducible refine rk0 ?_ (fun K hK => ?_) | with_reducible refine rk1 ?_ (fun K hK => ?_) | with_reducible refine rk2 ?_ (fun K hK => ?_) | with_reducible refine rk3 ?_ (fun K hK => ?_) | with_reducible refine rk4 ?_ (fun K hK => ?_)
       rfl
       go_simp
       with_reducible refine hK _ _ ?_
       clear hK K)
  with_reducible refine rel_nil ?_
  go_wp2_with fail
  go_ret
  exact ⟨rfl, B13.out⟩
end Go.Proofs.Yteolbbgnkbcfmaa

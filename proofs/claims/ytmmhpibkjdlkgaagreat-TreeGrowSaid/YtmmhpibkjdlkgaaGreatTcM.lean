/- tree's rightExpr, walked: more kinds. -/
import Derived.Test.YtmmhpibkjdlkgaaGreatTcE
import Derived.Test.YtmmhpibkjdlkgaaGreatSeqA
namespace Go.Proofs.YtmmhpibkjdlkgaaGreat
open Go Go.RowKit
open Tp (T)
open Ex (E)

set_option maxRecDepth 100000 in
set_option maxHeartbeats 16000000 in
theorem rightE_k14 (k f t : Int) (nm ar : List UInt8) (n : Int) (s : List UInt8) (op : Int) (A : T) (aa : Option Addr) (ac : Nat) (B : T) (ba : Option Addr) (bc : Nat) (pl : Nat) (pa : Option Addr) (pc : Nat) (kl : Nat) (ka : Option Addr) (kc : Nat) (ps : Bool) (w : World) (hin : XIn w nm ar A aa ac B ba bc) (hk : k = 14) (hpl : pl < maxLen) (hrp : ∀ W, Below w.heap.size w W → Calls Tryz.prog 91 #[.slice pa pl pc] W fun e w' => e = .returned (.bool ps) ∧ Below W.heap.size W w') :
    Calls Tryz.prog 55 #[xv k f t nm ar n s op A aa ac B ba bc pl pa pc kl ka kc] w fun r w' => r = .returned (.bool (Ex.nodeR k nm ar n s op A B pl ps kl)) ∧ Below w.heap.size w w' := by
  have hal := fun o : Obj => ((Below.refl w.heap.size w).alloc (Nat.le_refl _) o)
  have hnn : ∀ w, Calls Tryz.prog 88 #[.string ⟨nm.toArray⟩] w fun e w' => e = .returned (.bool (Wd.name nm)) ∧ w = w' := fun w => name_any ⟨nm.toArray⟩ (by show nm.toArray.size ≤ maxLen; rw [List.size_toArray]; have := hin.nm; unfold maxLen; omega) w
  have hna : ∀ w, Calls Tryz.prog 88 #[.string ⟨ar.toArray⟩] w fun e w' => e = .returned (.bool (Wd.name ar)) ∧ w = w' := fun w => name_any ⟨ar.toArray⟩ (by show ar.toArray.size ≤ maxLen; rw [List.size_toArray]; have := hin.ar; unfold maxLen; omega) w
  have hoa := fun W (hb : Below w.heap.size w W) => optional_any A aa ac W hin.sA (hin.tA.below hb (fun _ h => h) (fun _ h => Nat.lt_of_lt_of_le h hb.size))
  have hob := fun W (hb : Below w.heap.size w W) => optional_any B ba bc W hin.sB (hin.tB.below hb (fun _ h => h) (fun _ h => Nat.lt_of_lt_of_le h hb.size))
  have han := fun W (hb : Below w.heap.size w W) => annotation_any A aa ac W hin.sA (hin.tA.below hb (fun _ h => h) (fun _ h => Nat.lt_of_lt_of_le h hb.size))
  have htr := fun w => truth_any n w
  obtain ⟨bE, hbE, he⟩ : ∃ b, b = _ ∧ ∀ w, Calls Tryz.prog 92 _ w fun e w' => e = .returned (.bool b) ∧ Below w.heap.size w w' := ⟨_, rfl, fun w => empty_any k f t nm ar n s op A aa ac B ba bc 0 none 0 kl ka kc w⟩
  unfold tv at hoa hob han
  unfold xv Ex.nodeR Ex.arity
  subst hk
  obtain ⟨nA, hnA⟩ : ∃ b, Tp.none A = b := ⟨_, rfl⟩
  obtain ⟨nB, hnB⟩ : ∃ b, Tp.none B = b := ⟨_, rfl⟩
  obtain ⟨oA, hoA⟩ : ∃ b, Tp.opt A = b := ⟨_, rfl⟩
  obtain ⟨oB, hoB⟩ : ∃ b, Tp.opt B = b := ⟨_, rfl⟩
  obtain ⟨rA, hrA⟩ : ∃ b, Tp.ann A = b := ⟨_, rfl⟩
  obtain ⟨bn, hbn⟩ : ∃ b, Wd.name nm = b := ⟨_, rfl⟩
  obtain ⟨br, hbr⟩ : ∃ b, Wd.name ar = b := ⟨_, rfl⟩
  simp only [hnA, hnB, hoA, hoB, hrA, hbn, hbr] at hbE he hnn hna hoa hob han ⊢
  obtain ⟨a0, ha0⟩ : ∃ k, A.kind = k := ⟨_, rfl⟩
  obtain ⟨a1, ha1⟩ : ∃ k, A.num = k := ⟨_, rfl⟩
  obtain ⟨a2, ha2⟩ : ∃ k, A.kids.length = k := ⟨_, rfl⟩
  obtain ⟨b0, hb0⟩ : ∃ k, B.kind = k := ⟨_, rfl⟩
  obtain ⟨b1, hb1⟩ : ∃ k, B.num = k := ⟨_, rfl⟩
  obtain ⟨b2, hb2⟩ : ∃ k, B.kids.length = k := ⟨_, rfl⟩
  simp only [ha0, ha1, ha2, hb0, hb1, hb2] at he hoa hob han ⊢
  have HAL := Lib.hid hal; have HNN := Lib.hid hnn; have HNA := Lib.hid hna; have HOA := Lib.hid hoa; have HOB := Lib.hid hob; have HAN := Lib.hid han; have HTR := Lib.hid htr; have HE := Lib.hid he; have HBQ := Lib.hid hbE
  clear hal hnn hna hoa hob han htr he hbE hnA hnB hoA hoB hrA hbn hbr ha0 ha1 ha2 hb0 hb1 hb2 hin
  have hpm : (pl : Int) ≤ 9223372036854775806 := by unfold maxLen at hpl; omega
  clear hpl
  by_cases hp : pl = 0
  case pos =>
    subst hp
    go_enter Tryz.func55, Tryz.ntmps55
    go_upto_region 30 with fail
    go_region
    go_upto_region 38 with fail
    go_wp2_with fail
    go_ret
    exact ⟨ret_boolP (by simp), (HAL.out _).drew⟩
  have hp0 : (pl : Int) > 0 := by omega
  have hp1 : decide ((pl : Int) > 0) = true := decide_eq_true hp0
  have hp2 : 0 < pl := by omega
  clear hp
  have HRP := Lib.hid hrp
  clear hrp
  go_enter Tryz.func55, Tryz.ntmps55
  go_upto_region 30 with fail
  refine wp_region_seq [(0, false), (0, false), (0, false), (0, false), (0, false), (0, false), (0, false), (0, false), (0, false), (0, false), (0, false), (0, true), (0, false), (0, false), (0, false)] (by kernel_rfl) (by kernel_rfl) (by kernel_rfl) (fun _ _ _ d _ h => by cases d <;> exact h) ?_
  have hx0 := World.alloc_heap_new w (.cells #[.int .i64 14, .int .i64 f, .int .i64 t, .string ⟨nm.toArray⟩, .string ⟨ar.toArray⟩, .int .i64 n, .string ⟨s.toArray⟩, .int .i64 op, .int .i64 a0, .int .i64 a1, .slice aa a2 ac, .int .i64 b0, .int .i64 b1, .slice ba b2 bc, .slice pa pl pc, .slice ka kl kc] 30)
  obtain ⟨W0, hW0⟩ : ∃ W0, w.alloc (.cells #[.int .i64 14, .int .i64 f, .int .i64 t, .string ⟨nm.toArray⟩, .string ⟨ar.toArray⟩, .int .i64 n, .string ⟨s.toArray⟩, .int .i64 op, .int .i64 a0, .int .i64 a1, .slice aa a2 ac, .int .i64 b0, .int .i64 b1, .slice ba b2 bc, .slice pa pl pc, .slice ka kl kc] 30) = W0 := ⟨_, rfl⟩
  have hb0 : Below w.heap.size w W0 := by rw [← hW0]; exact HAL.out _
  have hs0 : W0.heap.size = w.heap.size + 1 := by rw [← hW0]; simp
  rw [hW0] at hx0 ⊢
  clear hW0
  have d14 : W0.drew.cell? ⟨w.heap.size, 14, none⟩ = some (.slice pa pl pc) := cell_box (i := 14) hx0 rfl rfl
  have HB0 := Lib.hid hb0; have HX0 := Lib.hid hx0; have HS0 := Lib.hid hs0
  clear hb0 hx0 hs0
  repeat
    first
    | (first | with_reducible refine sp0 (fun K hK => ?_) | with_reducible refine sp1 (fun K hK => ?_) | with_reducible refine sp2 (fun K hK => ?_) | with_reducible refine sp3 (fun K hK => ?_) | with_reducible refine sp4 (fun K hK => ?_)
       go_simp
       first
       | (with_reducible refine hK _ _ ?_; clear hK K)
       | (with_reducible apply Exists.intro
          refine ⟨fun x hx => ?_, hK _ _ ?_⟩
          first
            | (with_reducible exact rfl)
            | (have y0 := keepc hx d14; go_simp; done)
            | (have y0 := keepc hx d14; go_simp; with_reducible exact rfl)
          clear hK K))
  first | with_reducible refine sc0 (fun K hK => ?_) | with_reducible refine sc1 (fun K hK => ?_)
  go_simp
  refine (HRP.out _ HB0.out.drew).mono ?_
  rintro e w1 ⟨rfl, hb⟩
  refine ⟨hb, hK _ _ ?_⟩
  clear hK K d14
  repeat
    first
    | (first | with_reducible refine sp0 (fun K hK => ?_) | with_reducible refine sp1 (fun K hK => ?_) | with_reducible refine sp2 (fun K hK => ?_) | with_reducible refine sp3 (fun K hK => ?_) | with_reducible refine sp4 (fun K hK => ?_)
       go_simp
       first
       | (with_reducible refine hK _ _ ?_; clear hK K)
       | (with_reducible apply Exists.intro
          refine ⟨fun x hx => ?_, hK _ _ ?_⟩
          first
            | (with_reducible exact rfl)
          clear hK K))
  with_reducible refine seq_nil ?_
  have hx := (hb.block w.heap.size (by have := HS0.out; show w.heap.size < W0.heap.size; omega)).trans HX0.out
  have c1_0 := cell_box (i := 0) hx rfl rfl
  have c1_1 := cell_box (i := 1) hx rfl rfl
  have c1_2 := cell_box (i := 2) hx rfl rfl
  have c1_3 := cell_box (i := 3) hx rfl rfl
  have c1_4 := cell_box (i := 4) hx rfl rfl
  have c1_5 := cell_box (i := 5) hx rfl rfl
  have c1_6 := cell_box (i := 6) hx rfl rfl
  have c1_7 := cell_box (i := 7) hx rfl rfl
  have c1_8 := cell_box (i := 8) hx rfl rfl
  have c1_9 := cell_box (i := 9) hx rfl rfl
  have c1_10 := cell_box (i := 10) hx rfl rfl
  have c1_11 := cell_box (i := 11) hx rfl rfl
  have c1_12 := cell_box (i := 12) hx rfl rfl
  have c1_13 := cell_box (i := 13) hx rfl rfl
  have c1_14 := cell_box (i := 14) hx rfl rfl
  have c1_15 := cell_box (i := 15) hx rfl rfl
  have f1_14 := frz (i := 14) hx
  have HB1 := Lib.hid (HB0.out.drew.trans (hb.mono HB0.out.size)); have HX1 := Lib.hid hx
  clear hb hx
  go_upto_region 38 with fail
  cases ps with
  | false =>
    go_wp2_with fail
    go_ret
    exact ⟨ret_boolP (by simp), (HB1.out.setCell (Nat.le_refl _) _)⟩
  | true =>
    by_cases hm : (kl : Int) = (pl : Int) + 1
    case neg =>
      have gm : ((kl : Int) == (pl : Int) + 1) = false := by simp; omega
      have gn : ¬ (((pl : Int) + 1 : Int) = (kl : Int)) := by omega
      clear hm
      go_wp2_with fail
      go_ret
      exact ⟨ret_boolP (by first | (simp; done) | (simp [gn]; done)), (HB1.out.setCell (Nat.le_refl _) _)⟩
    obtain rfl : kl = pl + 1 := by omega
    go_wp2_with (go_at_call 92; with_reducible refine (HE.out _).mono ?_; rintro e we ⟨rfl, hbe⟩; have HBE := Lib.hid hbe; clear hbe)
    go_ret
    exact ⟨ret_boolP (by rw [HBQ.out]; first | (simp; done) | (simp [hp2]; done)), (HB1.out.setCell (Nat.le_refl _) _).trans (HBE.out.mono (by have := HB1.out.size; simp at this ⊢; omega))⟩
set_option maxRecDepth 100000 in
set_option maxHeartbeats 16000000 in
theorem rightE_k14m (k f t : Int) (nm ar : List UInt8) (n : Int) (s : List UInt8) (op : Int) (A : T) (aa : Option Addr) (ac : Nat) (B : T) (ba : Option Addr) (bc : Nat) (pl : Nat) (pa : Option Addr) (pc : Nat) (kl : Nat) (ka : Option Addr) (kc : Nat) (ps : Bool) (w : World) (hin : XIn w nm ar A aa ac B ba bc) (hk : k = 14) (hpl : pl = maxLen) (hkl : kl ≤ maxLen) (hrp : ∀ W, Below w.heap.size w W → Calls Tryz.prog 91 #[.slice pa pl pc] W fun e w' => e = .returned (.bool ps) ∧ Below W.heap.size W w') :
    Calls Tryz.prog 55 #[xv k f t nm ar n s op A aa ac B ba bc pl pa pc kl ka kc] w fun r w' => r = .returned (.bool (Ex.nodeR k nm ar n s op A B pl ps kl)) ∧ Below w.heap.size w w' := by
  have hal := fun o : Obj => ((Below.refl w.heap.size w).alloc (Nat.le_refl _) o)
  have hnn : ∀ w, Calls Tryz.prog 88 #[.string ⟨nm.toArray⟩] w fun e w' => e = .returned (.bool (Wd.name nm)) ∧ w = w' := fun w => name_any ⟨nm.toArray⟩ (by show nm.toArray.size ≤ maxLen; rw [List.size_toArray]; have := hin.nm; unfold maxLen; omega) w
  have hna : ∀ w, Calls Tryz.prog 88 #[.string ⟨ar.toArray⟩] w fun e w' => e = .returned (.bool (Wd.name ar)) ∧ w = w' := fun w => name_any ⟨ar.toArray⟩ (by show ar.toArray.size ≤ maxLen; rw [List.size_toArray]; have := hin.ar; unfold maxLen; omega) w
  have hoa := fun W (hb : Below w.heap.size w W) => optional_any A aa ac W hin.sA (hin.tA.below hb (fun _ h => h) (fun _ h => Nat.lt_of_lt_of_le h hb.size))
  have hob := fun W (hb : Below w.heap.size w W) => optional_any B ba bc W hin.sB (hin.tB.below hb (fun _ h => h) (fun _ h => Nat.lt_of_lt_of_le h hb.size))
  have han := fun W (hb : Below w.heap.size w W) => annotation_any A aa ac W hin.sA (hin.tA.below hb (fun _ h => h) (fun _ h => Nat.lt_of_lt_of_le h hb.size))
  have htr := fun w => truth_any n w
  obtain ⟨bE, hbE, he⟩ : ∃ b, b = _ ∧ ∀ w, Calls Tryz.prog 92 _ w fun e w' => e = .returned (.bool b) ∧ Below w.heap.size w w' := ⟨_, rfl, fun w => empty_any k f t nm ar n s op A aa ac B ba bc 0 none 0 kl ka kc w⟩
  unfold tv at hoa hob han
  unfold xv Ex.nodeR Ex.arity
  subst hk
  obtain ⟨nA, hnA⟩ : ∃ b, Tp.none A = b := ⟨_, rfl⟩
  obtain ⟨nB, hnB⟩ : ∃ b, Tp.none B = b := ⟨_, rfl⟩
  obtain ⟨oA, hoA⟩ : ∃ b, Tp.opt A = b := ⟨_, rfl⟩
  obtain ⟨oB, hoB⟩ : ∃ b, Tp.opt B = b := ⟨_, rfl⟩
  obtain ⟨rA, hrA⟩ : ∃ b, Tp.ann A = b := ⟨_, rfl⟩
  obtain ⟨bn, hbn⟩ : ∃ b, Wd.name nm = b := ⟨_, rfl⟩
  obtain ⟨br, hbr⟩ : ∃ b, Wd.name ar = b := ⟨_, rfl⟩
  simp only [hnA, hnB, hoA, hoB, hrA, hbn, hbr] at hbE he hnn hna hoa hob han ⊢
  obtain ⟨a0, ha0⟩ : ∃ k, A.kind = k := ⟨_, rfl⟩
  obtain ⟨a1, ha1⟩ : ∃ k, A.num = k := ⟨_, rfl⟩
  obtain ⟨a2, ha2⟩ : ∃ k, A.kids.length = k := ⟨_, rfl⟩
  obtain ⟨b0, hb0⟩ : ∃ k, B.kind = k := ⟨_, rfl⟩
  obtain ⟨b1, hb1⟩ : ∃ k, B.num = k := ⟨_, rfl⟩
  obtain ⟨b2, hb2⟩ : ∃ k, B.kids.length = k := ⟨_, rfl⟩
  simp only [ha0, ha1, ha2, hb0, hb1, hb2] at he hoa hob han ⊢
  have HAL := Lib.hid hal; have HNN := Lib.hid hnn; have HNA := Lib.hid hna; have HOA := Lib.hid hoa; have HOB := Lib.hid hob; have HAN := Lib.hid han; have HTR := Lib.hid htr; have HE := Lib.hid he; have HBQ := Lib.hid hbE
  clear hal hnn hna hoa hob han htr he hbE hnA hnB hoA hoB hrA hbn hbr ha0 ha1 ha2 hb0 hb1 hb2 hin
  have hpm : pl = 9223372036854775807 := by unfold maxLen at hpl; omega
  have hkm : (kl : Int) ≤ 9223372036854775807 := by unfold maxLen at hkl; omega
  clear hpl hkl
  subst hpm
  have HRP := Lib.hid hrp
  clear hrp
  go_enter Tryz.func55, Tryz.ntmps55
  go_upto_region 30 with fail
  refine wp_region_seq [(0, false), (0, false), (0, false), (0, false), (0, false), (0, false), (0, false), (0, false), (0, false), (0, false), (0, false), (0, true), (0, false), (0, false), (0, false)] (by kernel_rfl) (by kernel_rfl) (by kernel_rfl) (fun _ _ _ d _ h => by cases d <;> exact h) ?_
  have hx0 := World.alloc_heap_new w (.cells #[.int .i64 14, .int .i64 f, .int .i64 t, .string ⟨nm.toArray⟩, .string ⟨ar.toArray⟩, .int .i64 n, .string ⟨s.toArray⟩, .int .i64 op, .int .i64 a0, .int .i64 a1, .slice aa a2 ac, .int .i64 b0, .int .i64 b1, .slice ba b2 bc, .slice pa 9223372036854775807 pc, .slice ka kl kc] 30)
  obtain ⟨W0, hW0⟩ : ∃ W0, w.alloc (.cells #[.int .i64 14, .int .i64 f, .int .i64 t, .string ⟨nm.toArray⟩, .string ⟨ar.toArray⟩, .int .i64 n, .string ⟨s.toArray⟩, .int .i64 op, .int .i64 a0, .int .i64 a1, .slice aa a2 ac, .int .i64 b0, .int .i64 b1, .slice ba b2 bc, .slice pa 9223372036854775807 pc, .slice ka kl kc] 30) = W0 := ⟨_, rfl⟩
  have hb0 : Below w.heap.size w W0 := by rw [← hW0]; exact HAL.out _
  have hs0 : W0.heap.size = w.heap.size + 1 := by rw [← hW0]; simp
  rw [hW0] at hx0 ⊢
  clear hW0
  have d14 : W0.drew.cell? ⟨w.heap.size, 14, none⟩ = some (.slice pa 9223372036854775807 pc) := cell_box (i := 14) hx0 rfl rfl
  have HB0 := Lib.hid hb0; have HX0 := Lib.hid hx0; have HS0 := Lib.hid hs0
  clear hb0 hx0 hs0
  repeat
    first
    | (first | with_reducible refine sp0 (fun K hK => ?_) | with_reducible refine sp1 (fun K hK => ?_) | with_reducible refine sp2 (fun K hK => ?_) | with_reducible refine sp3 (fun K hK => ?_) | with_reducible refine sp4 (fun K hK => ?_)
       go_simp
       first
       | (with_reducible refine hK _ _ ?_; clear hK K)
       | (with_reducible apply Exists.intro
          refine ⟨fun x hx => ?_, hK _ _ ?_⟩
          first
            | (with_reducible exact rfl)
            | (have y0 := keepc hx d14; go_simp; done)
            | (have y0 := keepc hx d14; go_simp; with_reducible exact rfl)
          clear hK K))
  first | with_reducible refine sc0 (fun K hK => ?_) | with_reducible refine sc1 (fun K hK => ?_)
  go_simp
  refine (HRP.out _ HB0.out.drew).mono ?_
  rintro e w1 ⟨rfl, hb⟩
  refine ⟨hb, hK _ _ ?_⟩
  clear hK K d14
  repeat
    first
    | (first | with_reducible refine sp0 (fun K hK => ?_) | with_reducible refine sp1 (fun K hK => ?_) | with_reducible refine sp2 (fun K hK => ?_) | with_reducible refine sp3 (fun K hK => ?_) | with_reducible refine sp4 (fun K hK => ?_)
       go_simp
       first
       | (with_reducible refine hK _ _ ?_; clear hK K)
       | (with_reducible apply Exists.intro
          refine ⟨fun x hx => ?_, hK _ _ ?_⟩
          first
            | (with_reducible exact rfl)
          clear hK K))
  with_reducible refine seq_nil ?_
  have hx := (hb.block w.heap.size (by have := HS0.out; show w.heap.size < W0.heap.size; omega)).trans HX0.out
  have c1_0 := cell_box (i := 0) hx rfl rfl
  have c1_1 := cell_box (i := 1) hx rfl rfl
  have c1_2 := cell_box (i := 2) hx rfl rfl
  have c1_3 := cell_box (i := 3) hx rfl rfl
  have c1_4 := cell_box (i := 4) hx rfl rfl
  have c1_5 := cell_box (i := 5) hx rfl rfl
  have c1_6 := cell_box (i := 6) hx rfl rfl
  have c1_7 := cell_box (i := 7) hx rfl rfl
  have c1_8 := cell_box (i := 8) hx rfl rfl
  have c1_9 := cell_box (i := 9) hx rfl rfl
  have c1_10 := cell_box (i := 10) hx rfl rfl
  have c1_11 := cell_box (i := 11) hx rfl rfl
  have c1_12 := cell_box (i := 12) hx rfl rfl
  have c1_13 := cell_box (i := 13) hx rfl rfl
  have c1_14 := cell_box (i := 14) hx rfl rfl
  have c1_15 := cell_box (i := 15) hx rfl rfl
  have f1_14 := frz (i := 14) hx
  have HB1 := Lib.hid (HB0.out.drew.trans (hb.mono HB0.out.size)); have HX1 := Lib.hid hx
  clear hb hx
  go_upto_region 38 with fail
  have gm : ((kl : Int) == wrap64 9223372036854775808) = false := by rw [show wrap64 9223372036854775808 = -9223372036854775808 from by decide +kernel]; first | (simp; done) | (simp; omega)
  have gn : ¬ ((9223372036854775808 : Int) = (kl : Int)) := by omega
  cases ps with
  | false =>
    go_wp2_with fail
    go_ret
    exact ⟨ret_boolP (by simp), (HB1.out.setCell (Nat.le_refl _) _)⟩
  | true =>
    go_wp2_with fail
    go_ret
    exact ⟨ret_boolP (by simp), (HB1.out.setCell (Nat.le_refl _) _)⟩
end Go.Proofs.YtmmhpibkjdlkgaaGreat

/- tree's rightExpr, walked: more kinds. -/
import Derived.Test.YtmmhpibkjdlkgaaGreatTcE
import Derived.Test.YtmmhpibkjdlkgaaGreatSeqA
namespace Go.Proofs.YtmmhpibkjdlkgaaGreat
open Go Go.RowKit
open Tp (T)
open Ex (E)

set_option maxRecDepth 100000 in
set_option maxHeartbeats 16000000 in
theorem rightE_k12 (k f t : Int) (nm ar : List UInt8) (n : Int) (s : List UInt8) (op : Int) (A : T) (aa : Option Addr) (ac : Nat) (B : T) (ba : Option Addr) (bc : Nat) (pl : Nat) (pa : Option Addr) (pc : Nat) (kl : Nat) (ka : Option Addr) (kc : Nat) (ps : Bool) (w : World) (hin : XIn w nm ar A aa ac B ba bc) (hk : k = 12) :
    Calls Tryz.prog 55 #[xv k f t nm ar n s op A aa ac B ba bc pl pa pc kl ka kc] w fun r w' => r = .returned (.bool (Ex.nodeR k nm ar n s op A B pl ps kl)) ∧ Below w.heap.size w w' := by
  have hal := fun o : Obj => ((Below.refl w.heap.size w).alloc (Nat.le_refl _) o)
  have hnn : ∀ w, Calls Tryz.prog 88 #[.string ⟨nm.toArray⟩] w fun e w' => e = .returned (.bool (Wd.name nm)) ∧ w = w' := fun w => name_any ⟨nm.toArray⟩ (by show nm.toArray.size ≤ maxLen; rw [List.size_toArray]; have := hin.nm; unfold maxLen; omega) w
  have hna : ∀ w, Calls Tryz.prog 88 #[.string ⟨ar.toArray⟩] w fun e w' => e = .returned (.bool (Wd.name ar)) ∧ w = w' := fun w => name_any ⟨ar.toArray⟩ (by show ar.toArray.size ≤ maxLen; rw [List.size_toArray]; have := hin.ar; unfold maxLen; omega) w
  have hoa := fun W (hb : Below w.heap.size w W) => optional_any A aa ac W hin.sA (hin.tA.below hb (fun _ h => h) (fun _ h => Nat.lt_of_lt_of_le h hb.size))
  have hob := fun W (hb : Below w.heap.size w W) => optional_any B ba bc W hin.sB (hin.tB.below hb (fun _ h => h) (fun _ h => Nat.lt_of_lt_of_le h hb.size))
  have han := fun W (hb : Below w.heap.size w W) => annotation_any A aa ac W hin.sA (hin.tA.below hb (fun _ h => h) (fun _ h => Nat.lt_of_lt_of_le h hb.size))
  have htr := fun w => truth_any n w
  obtain ⟨bE, hbE, he⟩ : ∃ b, b = _ ∧ ∀ w, Calls Tryz.prog 92 _ w fun e w' => e = .returned (.bool b) ∧ Below w.heap.size w w' := ⟨_, rfl, fun w => empty_any k f t [] [] n s op (.mk 0 0 []) none 0 (.mk 0 0 []) none 0 pl pa pc kl ka kc w⟩
  unfold tv at hoa hob han
  simp only [zero_kind, zero_num, zero_kids] at he hbE
  unfold xv Ex.nodeR Ex.arity
  subst hk
  obtain ⟨nA, hnA⟩ : ∃ b, Tp.none A = b := ⟨_, rfl⟩
  obtain ⟨nB, hnB⟩ : ∃ b, Tp.none B = b := ⟨_, rfl⟩
  obtain ⟨oA, hoA⟩ : ∃ b, Tp.opt A = b := ⟨_, rfl⟩
  obtain ⟨oB, hoB⟩ : ∃ b, Tp.opt B = b := ⟨_, rfl⟩
  obtain ⟨rA, hrA⟩ : ∃ b, Tp.ann A = b := ⟨_, rfl⟩
  obtain ⟨bn, hbn⟩ : ∃ b, Wd.name nm = b := ⟨_, rfl⟩
  obtain ⟨br, hbr⟩ : ∃ b, Wd.name ar = b := ⟨_, rfl⟩
  simp only [hnA, hnB, hoA, hoB, hrA, hbn, hbr] at hbE he hnn hna hoa hob han ⊢
  obtain ⟨a0, ha0⟩ : ∃ k, A.kind = k := ⟨_, rfl⟩
  obtain ⟨a1, ha1⟩ : ∃ k, A.num = k := ⟨_, rfl⟩
  obtain ⟨a2, ha2⟩ : ∃ k, A.kids.length = k := ⟨_, rfl⟩
  obtain ⟨b0, hb0⟩ : ∃ k, B.kind = k := ⟨_, rfl⟩
  obtain ⟨b1, hb1⟩ : ∃ k, B.num = k := ⟨_, rfl⟩
  obtain ⟨b2, hb2⟩ : ∃ k, B.kids.length = k := ⟨_, rfl⟩
  simp only [ha0, ha1, ha2, hb0, hb1, hb2] at he hoa hob han ⊢
  have HAL := Lib.hid hal; have HNN := Lib.hid hnn; have HNA := Lib.hid hna; have HOA := Lib.hid hoa; have HOB := Lib.hid hob; have HAN := Lib.hid han; have HTR := Lib.hid htr; have HE := Lib.hid he; have HBQ := Lib.hid hbE
  clear hal hnn hna hoa hob han htr he hbE hnA hnB hoA hoB hrA hbn hbr ha0 ha1 ha2 hb0 hb1 hb2 hin
  cases bn with
  | false =>
    go_enter Tryz.func55, Tryz.ntmps55
    go_upto_region 38 with (go_at_call 88; with_reducible refine (HNN.out _).mono ?_; rintro e w0 ⟨rfl, rfl⟩)
    go_wp2_with fail
    go_ret
    exact ⟨ret_boolP (by simp), (HAL.out _)⟩
  | true =>
    cases br with
    | false =>
      go_enter Tryz.func55, Tryz.ntmps55
      go_upto_region 38 with (first | (go_at_call 88; with_reducible refine (HNN.out _).mono ?_; rintro e w0 ⟨rfl, rfl⟩) | (go_at_call 88; with_reducible refine (HNA.out _).mono ?_; rintro e w0 ⟨rfl, rfl⟩))
      go_wp2_with fail
      go_ret
      exact ⟨ret_boolP (by simp), (HAL.out _)⟩
    | true =>
      cases oA with
      | false =>
        go_enter Tryz.func55, Tryz.ntmps55
        go_upto_region 38 with (first | (go_at_call 88; with_reducible refine (HNN.out _).mono ?_; rintro e w0 ⟨rfl, rfl⟩) | (go_at_call 88; with_reducible refine (HNA.out _).mono ?_; rintro e w0 ⟨rfl, rfl⟩) | (go_at_call 90; with_reducible refine (HOA.out _ (HAL.out _)).mono ?_; rintro e w1 ⟨rfl, hb⟩; have hx := (hb.block w.heap.size (by simp)).trans (World.alloc_heap_new w _); have c1_0 := cell_box (i := 0) hx rfl rfl; have c1_1 := cell_box (i := 1) hx rfl rfl; have c1_2 := cell_box (i := 2) hx rfl rfl; have c1_3 := cell_box (i := 3) hx rfl rfl; have c1_4 := cell_box (i := 4) hx rfl rfl; have c1_5 := cell_box (i := 5) hx rfl rfl; have c1_6 := cell_box (i := 6) hx rfl rfl; have c1_7 := cell_box (i := 7) hx rfl rfl; have c1_8 := cell_box (i := 8) hx rfl rfl; have c1_9 := cell_box (i := 9) hx rfl rfl; have c1_10 := cell_box (i := 10) hx rfl rfl; have c1_11 := cell_box (i := 11) hx rfl rfl; have c1_12 := cell_box (i := 12) hx rfl rfl; have c1_13 := cell_box (i := 13) hx rfl rfl; have c1_14 := cell_box (i := 14) hx rfl rfl; have c1_15 := cell_box (i := 15) hx rfl rfl; have f1_3 := frz (i := 3) hx; have f1_4 := frz (i := 4) hx; have f1_8 := frz (i := 8) hx; have f1_9 := frz (i := 9) hx; have f1_10 := frz (i := 10) hx; have f1_11 := frz (i := 11) hx; have f1_12 := frz (i := 12) hx; have f1_13 := frz (i := 13) hx; have HX1 := Lib.hid hx; have HB1 := Lib.hid hb; clear hb hx))
        go_wp2_with fail
        go_ret
        exact ⟨ret_boolP (by simp), ((((((((((HAL.out _).trans (HB1.out.mono (by simp))).setCell (Nat.le_refl _) _).setCell (Nat.le_refl _) _).setCell (Nat.le_refl _) _).setCell (Nat.le_refl _) _).setCell (Nat.le_refl _) _).setCell (Nat.le_refl _) _).setCell (Nat.le_refl _) _).setCell (Nat.le_refl _) _)⟩
      | true =>
        go_enter Tryz.func55, Tryz.ntmps55
        go_upto_region 38 with (first | (go_at_call 88; with_reducible refine (HNN.out _).mono ?_; rintro e w0 ⟨rfl, rfl⟩) | (go_at_call 88; with_reducible refine (HNA.out _).mono ?_; rintro e w0 ⟨rfl, rfl⟩) | (go_at_call 90; with_reducible refine (HOA.out _ (HAL.out _)).mono ?_; rintro e w1 ⟨rfl, hb⟩; have hx := (hb.block w.heap.size (by simp)).trans (World.alloc_heap_new w _); have c1_0 := cell_box (i := 0) hx rfl rfl; have c1_1 := cell_box (i := 1) hx rfl rfl; have c1_2 := cell_box (i := 2) hx rfl rfl; have c1_3 := cell_box (i := 3) hx rfl rfl; have c1_4 := cell_box (i := 4) hx rfl rfl; have c1_5 := cell_box (i := 5) hx rfl rfl; have c1_6 := cell_box (i := 6) hx rfl rfl; have c1_7 := cell_box (i := 7) hx rfl rfl; have c1_8 := cell_box (i := 8) hx rfl rfl; have c1_9 := cell_box (i := 9) hx rfl rfl; have c1_10 := cell_box (i := 10) hx rfl rfl; have c1_11 := cell_box (i := 11) hx rfl rfl; have c1_12 := cell_box (i := 12) hx rfl rfl; have c1_13 := cell_box (i := 13) hx rfl rfl; have c1_14 := cell_box (i := 14) hx rfl rfl; have c1_15 := cell_box (i := 15) hx rfl rfl; have f1_3 := frz (i := 3) hx; have f1_4 := frz (i := 4) hx; have f1_8 := frz (i := 8) hx; have f1_9 := frz (i := 9) hx; have f1_10 := frz (i := 10) hx; have f1_11 := frz (i := 11) hx; have f1_12 := frz (i := 12) hx; have f1_13 := frz (i := 13) hx; have HX1 := Lib.hid hx; have HB1 := Lib.hid hb; clear hb hx) | (go_at_call 90; with_reducible refine (HOB.out _ ((HAL.out _).trans (HB1.out.mono (by simp)))).mono ?_; rintro e w2 ⟨rfl, hb⟩; have hx := (hb.block w.heap.size (Nat.lt_of_lt_of_le (by simp) HB1.out.size)).trans HX1.out; have c2_0 := cell_box (i := 0) hx rfl rfl; have c2_1 := cell_box (i := 1) hx rfl rfl; have c2_2 := cell_box (i := 2) hx rfl rfl; have c2_3 := cell_box (i := 3) hx rfl rfl; have c2_4 := cell_box (i := 4) hx rfl rfl; have c2_5 := cell_box (i := 5) hx rfl rfl; have c2_6 := cell_box (i := 6) hx rfl rfl; have c2_7 := cell_box (i := 7) hx rfl rfl; have c2_8 := cell_box (i := 8) hx rfl rfl; have c2_9 := cell_box (i := 9) hx rfl rfl; have c2_10 := cell_box (i := 10) hx rfl rfl; have c2_11 := cell_box (i := 11) hx rfl rfl; have c2_12 := cell_box (i := 12) hx rfl rfl; have c2_13 := cell_box (i := 13) hx rfl rfl; have c2_14 := cell_box (i := 14) hx rfl rfl; have c2_15 := cell_box (i := 15) hx rfl rfl; have f2_3 := frz (i := 3) hx; have f2_4 := frz (i := 4) hx; have f2_8 := frz (i := 8) hx; have f2_9 := frz (i := 9) hx; have f2_10 := frz (i := 10) hx; have f2_11 := frz (i := 11) hx; have f2_12 := frz (i := 12) hx; have f2_13 := frz (i := 13) hx; clear c1_0 c1_1 c1_2 c1_3 c1_4 c1_5 c1_6 c1_7 c1_8 c1_9 c1_10 c1_11 c1_12 c1_13 c1_14 c1_15 f1_3 f1_4 f1_8 f1_9 f1_10 f1_11 f1_12 f1_13; have HX2 := Lib.hid hx; have HB2 := Lib.hid (HB1.out.trans (hb.mono HB1.out.size)); clear hb hx))
        cases oB with
        | false =>
          go_wp2_with fail
          go_ret
          exact ⟨ret_boolP (by simp), ((((((((((HAL.out _).trans (HB2.out.mono (by simp))).setCell (Nat.le_refl _) _).setCell (Nat.le_refl _) _).setCell (Nat.le_refl _) _).setCell (Nat.le_refl _) _).setCell (Nat.le_refl _) _).setCell (Nat.le_refl _) _).setCell (Nat.le_refl _) _).setCell (Nat.le_refl _) _)⟩
        | true =>
          by_cases hm : (kl : Int) = 2
          case neg =>
            have gm : ((kl : Int) == 2) = false := by simp; omega
            have gn : ¬ ((2 : Int) = (kl : Int)) := by omega
            clear hm
            go_wp2_with fail
            go_ret
            exact ⟨ret_boolP (by first | (simp; done) | (simp [gn]; done)), ((((((((((HAL.out _).trans (HB2.out.mono (by simp))).setCell (Nat.le_refl _) _).setCell (Nat.le_refl _) _).setCell (Nat.le_refl _) _).setCell (Nat.le_refl _) _).setCell (Nat.le_refl _) _).setCell (Nat.le_refl _) _).setCell (Nat.le_refl _) _).setCell (Nat.le_refl _) _)⟩
          obtain rfl : kl = 2 := by omega
          go_wp2_with (go_at_call 92; with_reducible refine (HE.out _).mono ?_; rintro e we ⟨rfl, hbe⟩; have HBE := Lib.hid hbe; clear hbe)
          go_ret
          exact ⟨ret_boolP (by rw [HBQ.out]; simp [zero_none]), ((((((((((HAL.out _).trans (HB2.out.mono (by simp))).setCell (Nat.le_refl _) _).setCell (Nat.le_refl _) _).setCell (Nat.le_refl _) _).setCell (Nat.le_refl _) _).setCell (Nat.le_refl _) _).setCell (Nat.le_refl _) _).setCell (Nat.le_refl _) _).setCell (Nat.le_refl _) _).trans (HBE.out.mono (by have := HB2.out.size; simp at this ⊢; omega))⟩
set_option maxRecDepth 100000 in
set_option maxHeartbeats 16000000 in
theorem rightE_k16 (k f t : Int) (nm ar : List UInt8) (n : Int) (s : List UInt8) (op : Int) (A : T) (aa : Option Addr) (ac : Nat) (B : T) (ba : Option Addr) (bc : Nat) (pl : Nat) (pa : Option Addr) (pc : Nat) (kl : Nat) (ka : Option Addr) (kc : Nat) (ps : Bool) (w : World) (hin : XIn w nm ar A aa ac B ba bc) (hk : k = 16) :
    Calls Tryz.prog 55 #[xv k f t nm ar n s op A aa ac B ba bc pl pa pc kl ka kc] w fun r w' => r = .returned (.bool (Ex.nodeR k nm ar n s op A B pl ps kl)) ∧ Below w.heap.size w w' := by
  have hal := fun o : Obj => ((Below.refl w.heap.size w).alloc (Nat.le_refl _) o)
  have hnn : ∀ w, Calls Tryz.prog 88 #[.string ⟨nm.toArray⟩] w fun e w' => e = .returned (.bool (Wd.name nm)) ∧ w = w' := fun w => name_any ⟨nm.toArray⟩ (by show nm.toArray.size ≤ maxLen; rw [List.size_toArray]; have := hin.nm; unfold maxLen; omega) w
  have hna : ∀ w, Calls Tryz.prog 88 #[.string ⟨ar.toArray⟩] w fun e w' => e = .returned (.bool (Wd.name ar)) ∧ w = w' := fun w => name_any ⟨ar.toArray⟩ (by show ar.toArray.size ≤ maxLen; rw [List.size_toArray]; have := hin.ar; unfold maxLen; omega) w
  have hoa := fun W (hb : Below w.heap.size w W) => optional_any A aa ac W hin.sA (hin.tA.below hb (fun _ h => h) (fun _ h => Nat.lt_of_lt_of_le h hb.size))
  have hob := fun W (hb : Below w.heap.size w W) => optional_any B ba bc W hin.sB (hin.tB.below hb (fun _ h => h) (fun _ h => Nat.lt_of_lt_of_le h hb.size))
  have han := fun W (hb : Below w.heap.size w W) => annotation_any A aa ac W hin.sA (hin.tA.below hb (fun _ h => h) (fun _ h => Nat.lt_of_lt_of_le h hb.size))
  have htr := fun w => truth_any n w
  obtain ⟨bE, hbE, he⟩ : ∃ b, b = _ ∧ ∀ w, Calls Tryz.prog 92 _ w fun e w' => e = .returned (.bool b) ∧ Below w.heap.size w w' := ⟨_, rfl, fun w => empty_any k f t nm ar n s 0 A aa ac B ba bc pl pa pc kl ka kc w⟩
  unfold tv at hoa hob han
  unfold xv Ex.nodeR Ex.arity
  subst hk
  obtain ⟨nA, hnA⟩ : ∃ b, Tp.none A = b := ⟨_, rfl⟩
  obtain ⟨nB, hnB⟩ : ∃ b, Tp.none B = b := ⟨_, rfl⟩
  obtain ⟨oA, hoA⟩ : ∃ b, Tp.opt A = b := ⟨_, rfl⟩
  obtain ⟨oB, hoB⟩ : ∃ b, Tp.opt B = b := ⟨_, rfl⟩
  obtain ⟨rA, hrA⟩ : ∃ b, Tp.ann A = b := ⟨_, rfl⟩
  obtain ⟨bn, hbn⟩ : ∃ b, Wd.name nm = b := ⟨_, rfl⟩
  obtain ⟨br, hbr⟩ : ∃ b, Wd.name ar = b := ⟨_, rfl⟩
  simp only [hnA, hnB, hoA, hoB, hrA, hbn, hbr] at hbE he hnn hna hoa hob han ⊢
  obtain ⟨a0, ha0⟩ : ∃ k, A.kind = k := ⟨_, rfl⟩
  obtain ⟨a1, ha1⟩ : ∃ k, A.num = k := ⟨_, rfl⟩
  obtain ⟨a2, ha2⟩ : ∃ k, A.kids.length = k := ⟨_, rfl⟩
  obtain ⟨b0, hb0⟩ : ∃ k, B.kind = k := ⟨_, rfl⟩
  obtain ⟨b1, hb1⟩ : ∃ k, B.num = k := ⟨_, rfl⟩
  obtain ⟨b2, hb2⟩ : ∃ k, B.kids.length = k := ⟨_, rfl⟩
  simp only [ha0, ha1, ha2, hb0, hb1, hb2] at he hoa hob han ⊢
  have HAL := Lib.hid hal; have HNN := Lib.hid hnn; have HNA := Lib.hid hna; have HOA := Lib.hid hoa; have HOB := Lib.hid hob; have HAN := Lib.hid han; have HTR := Lib.hid htr; have HE := Lib.hid he; have HBQ := Lib.hid hbE
  clear hal hnn hna hoa hob han htr he hbE hnA hnB hoA hoB hrA hbn hbr ha0 ha1 ha2 hb0 hb1 hb2 hin
  by_cases h1 : 1 ≤ op
  case neg =>
    have g1 : decide (1 ≤ op) = false := decide_eq_false h1
    go_enter Tryz.func55, Tryz.ntmps55
    go_upto_region 36 with fail
    go_region
    go_upto_region 38 with fail
    go_wp2_with fail
    go_ret
    exact ⟨ret_boolP (by first | (simp; done) | (simp [h1]; done)), (HAL.out _).drew⟩
  by_cases h2 : op ≤ 7
  case neg =>
    have g1 : decide (1 ≤ op) = true := decide_eq_true h1
    have g2 : decide (op ≤ 7) = false := decide_eq_false h2
    go_enter Tryz.func55, Tryz.ntmps55
    go_upto_region 36 with fail
    go_region
    go_upto_region 38 with fail
    go_wp2_with fail
    go_ret
    exact ⟨ret_boolP (by first | (simp; done) | (simp [h2]; done)), (HAL.out _).drew⟩
  have g1 : decide (1 ≤ op) = true := decide_eq_true h1
  have g2 : decide (op ≤ 7) = true := decide_eq_true h2
  go_enter Tryz.func55, Tryz.ntmps55
  go_upto_region 36 with fail
  go_region
  go_upto_region 38 with fail
  by_cases hm : (kl : Int) = 2
  case neg =>
    have gm : ((kl : Int) == 2) = false := by simp; omega
    have gn : ¬ ((2 : Int) = (kl : Int)) := by omega
    clear hm
    go_wp2_with fail
    go_ret
    exact ⟨ret_boolP (by first | (simp; done) | (simp [gn]; done)), (HAL.out _).drew⟩
  obtain rfl : kl = 2 := by omega
  go_wp2_with (go_at_call 92; with_reducible refine (HE.out _).mono ?_; rintro e we ⟨rfl, hbe⟩; have HBE := Lib.hid hbe; clear hbe)
  go_ret
  exact ⟨ret_boolP (by rw [HBQ.out]; first | (simp; done) | (simp [h1, h2]; done)), (HAL.out _).drew.trans (HBE.out.mono (by simp))⟩
set_option maxRecDepth 100000 in
set_option maxHeartbeats 16000000 in
theorem rightE_kno (k f t : Int) (nm ar : List UInt8) (n : Int) (s : List UInt8) (op : Int) (A : T) (aa : Option Addr) (ac : Nat) (B : T) (ba : Option Addr) (bc : Nat) (pl : Nat) (pa : Option Addr) (pc : Nat) (kl : Nat) (ka : Option Addr) (kc : Nat) (ps : Bool) (w : World) (hin : XIn w nm ar A aa ac B ba bc) (hk : ¬ (1 ≤ k ∧ k ≤ 16)) :
    Calls Tryz.prog 55 #[xv k f t nm ar n s op A aa ac B ba bc pl pa pc kl ka kc] w fun r w' => r = .returned (.bool (Ex.nodeR k nm ar n s op A B pl ps kl)) ∧ Below w.heap.size w w' := by
  have hal := fun o : Obj => ((Below.refl w.heap.size w).alloc (Nat.le_refl _) o)
  have hnn : ∀ w, Calls Tryz.prog 88 #[.string ⟨nm.toArray⟩] w fun e w' => e = .returned (.bool (Wd.name nm)) ∧ w = w' := fun w => name_any ⟨nm.toArray⟩ (by show nm.toArray.size ≤ maxLen; rw [List.size_toArray]; have := hin.nm; unfold maxLen; omega) w
  have hna : ∀ w, Calls Tryz.prog 88 #[.string ⟨ar.toArray⟩] w fun e w' => e = .returned (.bool (Wd.name ar)) ∧ w = w' := fun w => name_any ⟨ar.toArray⟩ (by show ar.toArray.size ≤ maxLen; rw [List.size_toArray]; have := hin.ar; unfold maxLen; omega) w
  have hoa := fun W (hb : Below w.heap.size w W) => optional_any A aa ac W hin.sA (hin.tA.below hb (fun _ h => h) (fun _ h => Nat.lt_of_lt_of_le h hb.size))
  have hob := fun W (hb : Below w.heap.size w W) => optional_any B ba bc W hin.sB (hin.tB.below hb (fun _ h => h) (fun _ h => Nat.lt_of_lt_of_le h hb.size))
  have han := fun W (hb : Below w.heap.size w W) => annotation_any A aa ac W hin.sA (hin.tA.below hb (fun _ h => h) (fun _ h => Nat.lt_of_lt_of_le h hb.size))
  have htr := fun w => truth_any n w
  obtain ⟨bE, hbE, he⟩ : ∃ b, b = _ ∧ ∀ w, Calls Tryz.prog 92 _ w fun e w' => e = .returned (.bool b) ∧ Below w.heap.size w w' := ⟨_, rfl, fun w => empty_any k f t nm ar n s op A aa ac B ba bc pl pa pc kl ka kc w⟩
  unfold tv at hoa hob han
  unfold xv Ex.nodeR Ex.arity
  skip
  obtain ⟨nA, hnA⟩ : ∃ b, Tp.none A = b := ⟨_, rfl⟩
  obtain ⟨nB, hnB⟩ : ∃ b, Tp.none B = b := ⟨_, rfl⟩
  obtain ⟨oA, hoA⟩ : ∃ b, Tp.opt A = b := ⟨_, rfl⟩
  obtain ⟨oB, hoB⟩ : ∃ b, Tp.opt B = b := ⟨_, rfl⟩
  obtain ⟨rA, hrA⟩ : ∃ b, Tp.ann A = b := ⟨_, rfl⟩
  obtain ⟨bn, hbn⟩ : ∃ b, Wd.name nm = b := ⟨_, rfl⟩
  obtain ⟨br, hbr⟩ : ∃ b, Wd.name ar = b := ⟨_, rfl⟩
  simp only [hnA, hnB, hoA, hoB, hrA, hbn, hbr] at hbE he hnn hna hoa hob han ⊢
  obtain ⟨a0, ha0⟩ : ∃ k, A.kind = k := ⟨_, rfl⟩
  obtain ⟨a1, ha1⟩ : ∃ k, A.num = k := ⟨_, rfl⟩
  obtain ⟨a2, ha2⟩ : ∃ k, A.kids.length = k := ⟨_, rfl⟩
  obtain ⟨b0, hb0⟩ : ∃ k, B.kind = k := ⟨_, rfl⟩
  obtain ⟨b1, hb1⟩ : ∃ k, B.num = k := ⟨_, rfl⟩
  obtain ⟨b2, hb2⟩ : ∃ k, B.kids.length = k := ⟨_, rfl⟩
  simp only [ha0, ha1, ha2, hb0, hb1, hb2] at he hoa hob han ⊢
  have HAL := Lib.hid hal; have HNN := Lib.hid hnn; have HNA := Lib.hid hna; have HOA := Lib.hid hoa; have HOB := Lib.hid hob; have HAN := Lib.hid han; have HTR := Lib.hid htr; have HE := Lib.hid he; have HBQ := Lib.hid hbE
  clear hal hnn hna hoa hob han htr he hbE hnA hnB hoA hoB hrA hbn hbr ha0 ha1 ha2 hb0 hb1 hb2 hin
  have hno : (decide ((if k = 1 ∨ k = 2 ∨ k = 3 ∨ k = 4 ∨ k = 5 ∨ k = 7 then (0 : Int) else if k = 6 ∨ k = 8 ∨ k = 10 ∨ k = 11 ∨ k = 12 ∨ k = 16 then 2 else if k = 9 ∨ k = 15 then 1 else if k = 13 then 3 else if k = 14 then (pl : Int) + 1 else -1) = (kl : Int))) = false := by
    rw [if_neg (by omega), if_neg (by omega), if_neg (by omega), if_neg (by omega), if_neg (by omega)]; exact decide_eq_false (by omega)
  rw [hno]
  simp only [Bool.false_and]
  have g1 : (k == 1) = false := by simp; omega
  have g2 : (k == 2) = false := by simp; omega
  have g3 : (k == 3) = false := by simp; omega
  have g4 : (k == 4) = false := by simp; omega
  have g5 : (k == 5) = false := by simp; omega
  have g6 : (k == 6) = false := by simp; omega
  have g7 : (k == 7) = false := by simp; omega
  have g8 : (k == 8) = false := by simp; omega
  have g9 : (k == 9) = false := by simp; omega
  have g10 : (k == 10) = false := by simp; omega
  have g11 : (k == 11) = false := by simp; omega
  have g12 : (k == 12) = false := by simp; omega
  have g13 : (k == 13) = false := by simp; omega
  have g14 : (k == 14) = false := by simp; omega
  have g15 : (k == 15) = false := by simp; omega
  have g16 : (k == 16) = false := by simp; omega
  clear hk hno
  go_enter Tryz.func55, Tryz.ntmps55
  go_wp2_with fail
  go_ret
  exact ⟨rfl, HAL.out _⟩
end Go.Proofs.YtmmhpibkjdlkgaaGreat

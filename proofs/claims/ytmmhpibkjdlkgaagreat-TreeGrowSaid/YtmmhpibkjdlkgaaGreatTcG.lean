/- tree's rightExpr, walked: more kinds. -/
import Derived.Test.YtmmhpibkjdlkgaaGreatTcE
import Derived.Test.YtmmhpibkjdlkgaaGreatSeqA
namespace Go.Proofs.YtmmhpibkjdlkgaaGreat
open Go Go.RowKit
open Tp (T)
open Ex (E)

set_option maxRecDepth 100000 in
set_option maxHeartbeats 16000000 in
theorem rightE_k15 (k f t : Int) (nm ar : List UInt8) (n : Int) (s : List UInt8) (op : Int) (A : T) (aa : Option Addr) (ac : Nat) (B : T) (ba : Option Addr) (bc : Nat) (pl : Nat) (pa : Option Addr) (pc : Nat) (kl : Nat) (ka : Option Addr) (kc : Nat) (ps : Bool) (w : World) (hin : XIn w nm ar A aa ac B ba bc) (hk : k = 15) :
    Calls Tryz.prog 55 #[xv k f t nm ar n s op A aa ac B ba bc pl pa pc kl ka kc] w fun r w' => r = .returned (.bool (Ex.nodeR k nm ar n s op A B pl ps kl)) ∧ Below w.heap.size w w' := by
  have hal := fun o : Obj => ((Below.refl w.heap.size w).alloc (Nat.le_refl _) o)
  have hnn : ∀ w, Calls Tryz.prog 88 #[.string ⟨nm.toArray⟩] w fun e w' => e = .returned (.bool (Wd.name nm)) ∧ w = w' := fun w => name_any ⟨nm.toArray⟩ (by show nm.toArray.size ≤ maxLen; rw [List.size_toArray]; have := hin.nm; unfold maxLen; omega) w
  have hna : ∀ w, Calls Tryz.prog 88 #[.string ⟨ar.toArray⟩] w fun e w' => e = .returned (.bool (Wd.name ar)) ∧ w = w' := fun w => name_any ⟨ar.toArray⟩ (by show ar.toArray.size ≤ maxLen; rw [List.size_toArray]; have := hin.ar; unfold maxLen; omega) w
  have hoa := fun W (hb : Below w.heap.size w W) => optional_any A aa ac W hin.sA (hin.tA.below hb (fun _ h => h) (fun _ h => Nat.lt_of_lt_of_le h hb.size))
  have hob := fun W (hb : Below w.heap.size w W) => optional_any B ba bc W hin.sB (hin.tB.below hb (fun _ h => h) (fun _ h => Nat.lt_of_lt_of_le h hb.size))
  have han := fun W (hb : Below w.heap.size w W) => annotation_any A aa ac W hin.sA (hin.tA.below hb (fun _ h => h) (fun _ h => Nat.lt_of_lt_of_le h hb.size))
  have htr := fun w => truth_any n w
  obtain ⟨bE, hbE, he⟩ : ∃ b, b = _ ∧ ∀ w, Calls Tryz.prog 92 _ w fun e w' => e = .returned (.bool b) ∧ Below w.heap.size w w' := ⟨_, rfl, fun w => empty_any k f t nm ar n s op (.mk 0 0 []) none 0 B ba bc pl pa pc kl ka kc w⟩
  unfold tv at hoa hob han
  simp only [zero_kind, zero_num, zero_kids] at he hbE
  unfold xv Ex.nodeR Ex.arity
  subst hk
  obtain ⟨nA, hnA⟩ : ∃ b, Tp.none A = b := ⟨_, rfl⟩
  obtain ⟨nB, hnB⟩ : ∃ b, Tp.none B = b := ⟨_, rfl⟩
  obtain ⟨oA, hoA⟩ : ∃ b, Tp.opt A = b := ⟨_, rfl⟩
  obtain ⟨oB, hoB⟩ : ∃ b, Tp.opt B = b := ⟨_, rfl⟩
  obtain ⟨rA, hrA⟩ : ∃ b, Tp.ann A = b := ⟨_, rfl⟩
  obtain ⟨bn, hbn⟩ : ∃ b, Wd.name nm = b := ⟨_, rfl⟩
  obtain ⟨br, hbr⟩ : ∃ b, Wd.name ar = b := ⟨_, rfl⟩
  simp only [hnA, hnB, hoA, hoB, hrA, hbn, hbr] at hbE he hnn hna hoa hob han ⊢
  obtain ⟨a0, ha0⟩ : ∃ k, A.kind = k := ⟨_, rfl⟩
  obtain ⟨a1, ha1⟩ : ∃ k, A.num = k := ⟨_, rfl⟩
  obtain ⟨a2, ha2⟩ : ∃ k, A.kids.length = k := ⟨_, rfl⟩
  obtain ⟨b0, hb0⟩ : ∃ k, B.kind = k := ⟨_, rfl⟩
  obtain ⟨b1, hb1⟩ : ∃ k, B.num = k := ⟨_, rfl⟩
  obtain ⟨b2, hb2⟩ : ∃ k, B.kids.length = k := ⟨_, rfl⟩
  simp only [ha0, ha1, ha2, hb0, hb1, hb2] at he hoa hob han ⊢
  have HAL := Lib.hid hal; have HNN := Lib.hid hnn; have HNA := Lib.hid hna; have HOA := Lib.hid hoa; have HOB := Lib.hid hob; have HAN := Lib.hid han; have HTR := Lib.hid htr; have HE := Lib.hid he; have HBQ := Lib.hid hbE
  clear hal hnn hna hoa hob han htr he hbE hnA hnB hoA hoB hrA hbn hbr ha0 ha1 ha2 hb0 hb1 hb2 hin
  go_enter Tryz.func55, Tryz.ntmps55
  go_upto_region 38 with (go_at_call 74; with_reducible refine (HAN.out _ (HAL.out _)).mono ?_; rintro e w1 ⟨rfl, hb⟩; have hx := (hb.block w.heap.size (by simp)).trans (World.alloc_heap_new w _); have c1_0 := cell_box (i := 0) hx rfl rfl; have c1_1 := cell_box (i := 1) hx rfl rfl; have c1_2 := cell_box (i := 2) hx rfl rfl; have c1_3 := cell_box (i := 3) hx rfl rfl; have c1_4 := cell_box (i := 4) hx rfl rfl; have c1_5 := cell_box (i := 5) hx rfl rfl; have c1_6 := cell_box (i := 6) hx rfl rfl; have c1_7 := cell_box (i := 7) hx rfl rfl; have c1_8 := cell_box (i := 8) hx rfl rfl; have c1_9 := cell_box (i := 9) hx rfl rfl; have c1_10 := cell_box (i := 10) hx rfl rfl; have c1_11 := cell_box (i := 11) hx rfl rfl; have c1_12 := cell_box (i := 12) hx rfl rfl; have c1_13 := cell_box (i := 13) hx rfl rfl; have c1_14 := cell_box (i := 14) hx rfl rfl; have c1_15 := cell_box (i := 15) hx rfl rfl; have f1_3 := frz (i := 3) hx; have f1_4 := frz (i := 4) hx; have f1_8 := frz (i := 8) hx; have f1_9 := frz (i := 9) hx; have f1_10 := frz (i := 10) hx; have f1_11 := frz (i := 11) hx; have f1_12 := frz (i := 12) hx; have f1_13 := frz (i := 13) hx; have HX1 := Lib.hid hx; have HB1 := Lib.hid hb; clear hb hx)
  cases rA with
  | false =>
    go_wp2_with fail
    go_ret
    exact ⟨ret_boolP (by simp), (((((HAL.out _).trans (HB1.out.mono (by simp))).setCell (Nat.le_refl _) _).setCell (Nat.le_refl _) _).setCell (Nat.le_refl _) _)⟩
  | true =>
    by_cases hm : (kl : Int) = 1
    case neg =>
      have gm : ((kl : Int) == 1) = false := by simp; omega
      have gn : ¬ ((1 : Int) = (kl : Int)) := by omega
      clear hm
      go_wp2_with fail
      go_ret
      exact ⟨ret_boolP (by first | (simp; done) | (simp [gn]; done)), (((((HAL.out _).trans (HB1.out.mono (by simp))).setCell (Nat.le_refl _) _).setCell (Nat.le_refl _) _).setCell (Nat.le_refl _) _)⟩
    obtain rfl : kl = 1 := by omega
    go_wp2_with (go_at_call 92; with_reducible refine (HE.out _).mono ?_; rintro e we ⟨rfl, hbe⟩; have HBE := Lib.hid hbe; clear hbe)
    go_ret
    exact ⟨ret_boolP (by rw [HBQ.out]; simp [zero_none]), (((((HAL.out _).trans (HB1.out.mono (by simp))).setCell (Nat.le_refl _) _).setCell (Nat.le_refl _) _).setCell (Nat.le_refl _) _).trans (HBE.out.mono (by have := HB1.out.size; simp at this ⊢; omega))⟩
set_option maxRecDepth 100000 in
set_option maxHeartbeats 16000000 in
theorem rightE_k9 (k f t : Int) (nm ar : List UInt8) (n : Int) (s : List UInt8) (op : Int) (A : T) (aa : Option Addr) (ac : Nat) (B : T) (ba : Option Addr) (bc : Nat) (pl : Nat) (pa : Option Addr) (pc : Nat) (kl : Nat) (ka : Option Addr) (kc : Nat) (ps : Bool) (w : World) (hin : XIn w nm ar A aa ac B ba bc) (hk : k = 9) :
    Calls Tryz.prog 55 #[xv k f t nm ar n s op A aa ac B ba bc pl pa pc kl ka kc] w fun r w' => r = .returned (.bool (Ex.nodeR k nm ar n s op A B pl ps kl)) ∧ Below w.heap.size w w' := by
  have hal := fun o : Obj => ((Below.refl w.heap.size w).alloc (Nat.le_refl _) o)
  have hnn : ∀ w, Calls Tryz.prog 88 #[.string ⟨nm.toArray⟩] w fun e w' => e = .returned (.bool (Wd.name nm)) ∧ w = w' := fun w => name_any ⟨nm.toArray⟩ (by show nm.toArray.size ≤ maxLen; rw [List.size_toArray]; have := hin.nm; unfold maxLen; omega) w
  have hna : ∀ w, Calls Tryz.prog 88 #[.string ⟨ar.toArray⟩] w fun e w' => e = .returned (.bool (Wd.name ar)) ∧ w = w' := fun w => name_any ⟨ar.toArray⟩ (by show ar.toArray.size ≤ maxLen; rw [List.size_toArray]; have := hin.ar; unfold maxLen; omega) w
  have hoa := fun W (hb : Below w.heap.size w W) => optional_any A aa ac W hin.sA (hin.tA.below hb (fun _ h => h) (fun _ h => Nat.lt_of_lt_of_le h hb.size))
  have hob := fun W (hb : Below w.heap.size w W) => optional_any B ba bc W hin.sB (hin.tB.below hb (fun _ h => h) (fun _ h => Nat.lt_of_lt_of_le h hb.size))
  have han := fun W (hb : Below w.heap.size w W) => annotation_any A aa ac W hin.sA (hin.tA.below hb (fun _ h => h) (fun _ h => Nat.lt_of_lt_of_le h hb.size))
  have htr := fun w => truth_any n w
  obtain ⟨bE, hbE, he⟩ : ∃ b, b = _ ∧ ∀ w, Calls Tryz.prog 92 _ w fun e w' => e = .returned (.bool b) ∧ Below w.heap.size w w' := ⟨_, rfl, fun w => empty_any k f t [] ar n s op (.mk 0 0 []) none 0 B ba bc pl pa pc kl ka kc w⟩
  unfold tv at hoa hob han
  simp only [zero_kind, zero_num, zero_kids] at he hbE
  unfold xv Ex.nodeR Ex.arity
  subst hk
  obtain ⟨nA, hnA⟩ : ∃ b, Tp.none A = b := ⟨_, rfl⟩
  obtain ⟨nB, hnB⟩ : ∃ b, Tp.none B = b := ⟨_, rfl⟩
  obtain ⟨oA, hoA⟩ : ∃ b, Tp.opt A = b := ⟨_, rfl⟩
  obtain ⟨oB, hoB⟩ : ∃ b, Tp.opt B = b := ⟨_, rfl⟩
  obtain ⟨rA, hrA⟩ : ∃ b, Tp.ann A = b := ⟨_, rfl⟩
  obtain ⟨bn, hbn⟩ : ∃ b, Wd.name nm = b := ⟨_, rfl⟩
  obtain ⟨br, hbr⟩ : ∃ b, Wd.name ar = b := ⟨_, rfl⟩
  simp only [hnA, hnB, hoA, hoB, hrA, hbn, hbr] at hbE he hnn hna hoa hob han ⊢
  obtain ⟨a0, ha0⟩ : ∃ k, A.kind = k := ⟨_, rfl⟩
  obtain ⟨a1, ha1⟩ : ∃ k, A.num = k := ⟨_, rfl⟩
  obtain ⟨a2, ha2⟩ : ∃ k, A.kids.length = k := ⟨_, rfl⟩
  obtain ⟨b0, hb0⟩ : ∃ k, B.kind = k := ⟨_, rfl⟩
  obtain ⟨b1, hb1⟩ : ∃ k, B.num = k := ⟨_, rfl⟩
  obtain ⟨b2, hb2⟩ : ∃ k, B.kids.length = k := ⟨_, rfl⟩
  simp only [ha0, ha1, ha2, hb0, hb1, hb2] at he hoa hob han ⊢
  have HAL := Lib.hid hal; have HNN := Lib.hid hnn; have HNA := Lib.hid hna; have HOA := Lib.hid hoa; have HOB := Lib.hid hob; have HAN := Lib.hid han; have HTR := Lib.hid htr; have HE := Lib.hid he; have HBQ := Lib.hid hbE
  clear hal hnn hna hoa hob han htr he hbE hnA hnB hoA hoB hrA hbn hbr ha0 ha1 ha2 hb0 hb1 hb2 hin
  cases bn with
  | false =>
    go_enter Tryz.func55, Tryz.ntmps55
    go_upto_region 38 with (go_at_call 88; with_reducible refine (HNN.out _).mono ?_; rintro e w0 ⟨rfl, rfl⟩)
    go_wp2_with fail
    go_ret
    exact ⟨ret_boolP (by simp), (HAL.out _)⟩
  | true =>
    go_enter Tryz.func55, Tryz.ntmps55
    go_upto_region 38 with (first | (go_at_call 88; with_reducible refine (HNN.out _).mono ?_; rintro e w0 ⟨rfl, rfl⟩) | (go_at_call 90; with_reducible refine (HOA.out _ (HAL.out _)).mono ?_; rintro e w1 ⟨rfl, hb⟩; have hx := (hb.block w.heap.size (by simp)).trans (World.alloc_heap_new w _); have c1_0 := cell_box (i := 0) hx rfl rfl; have c1_1 := cell_box (i := 1) hx rfl rfl; have c1_2 := cell_box (i := 2) hx rfl rfl; have c1_3 := cell_box (i := 3) hx rfl rfl; have c1_4 := cell_box (i := 4) hx rfl rfl; have c1_5 := cell_box (i := 5) hx rfl rfl; have c1_6 := cell_box (i := 6) hx rfl rfl; have c1_7 := cell_box (i := 7) hx rfl rfl; have c1_8 := cell_box (i := 8) hx rfl rfl; have c1_9 := cell_box (i := 9) hx rfl rfl; have c1_10 := cell_box (i := 10) hx rfl rfl; have c1_11 := cell_box (i := 11) hx rfl rfl; have c1_12 := cell_box (i := 12) hx rfl rfl; have c1_13 := cell_box (i := 13) hx rfl rfl; have c1_14 := cell_box (i := 14) hx rfl rfl; have c1_15 := cell_box (i := 15) hx rfl rfl; have f1_3 := frz (i := 3) hx; have f1_4 := frz (i := 4) hx; have f1_8 := frz (i := 8) hx; have f1_9 := frz (i := 9) hx; have f1_10 := frz (i := 10) hx; have f1_11 := frz (i := 11) hx; have f1_12 := frz (i := 12) hx; have f1_13 := frz (i := 13) hx; have HX1 := Lib.hid hx; have HB1 := Lib.hid hb; clear hb hx))
    cases oA with
    | false =>
      go_wp2_with fail
      go_ret
      exact ⟨ret_boolP (by simp), ((((((HAL.out _).trans (HB1.out.mono (by simp))).setCell (Nat.le_refl _) _).setCell (Nat.le_refl _) _).setCell (Nat.le_refl _) _).setCell (Nat.le_refl _) _)⟩
    | true =>
      by_cases hm : (kl : Int) = 1
      case neg =>
        have gm : ((kl : Int) == 1) = false := by simp; omega
        have gn : ¬ ((1 : Int) = (kl : Int)) := by omega
        clear hm
        go_wp2_with fail
        go_ret
        exact ⟨ret_boolP (by first | (simp; done) | (simp [gn]; done)), ((((((HAL.out _).trans (HB1.out.mono (by simp))).setCell (Nat.le_refl _) _).setCell (Nat.le_refl _) _).setCell (Nat.le_refl _) _).setCell (Nat.le_refl _) _)⟩
      obtain rfl : kl = 1 := by omega
      go_wp2_with (go_at_call 92; with_reducible refine (HE.out _).mono ?_; rintro e we ⟨rfl, hbe⟩; have HBE := Lib.hid hbe; clear hbe)
      go_ret
      exact ⟨ret_boolP (by rw [HBQ.out]; simp [zero_none]), ((((((HAL.out _).trans (HB1.out.mono (by simp))).setCell (Nat.le_refl _) _).setCell (Nat.le_refl _) _).setCell (Nat.le_refl _) _).setCell (Nat.le_refl _) _).trans (HBE.out.mono (by have := HB1.out.size; simp at this ⊢; omega))⟩
set_option maxRecDepth 100000 in
set_option maxHeartbeats 16000000 in
theorem rightE_k11 (k f t : Int) (nm ar : List UInt8) (n : Int) (s : List UInt8) (op : Int) (A : T) (aa : Option Addr) (ac : Nat) (B : T) (ba : Option Addr) (bc : Nat) (pl : Nat) (pa : Option Addr) (pc : Nat) (kl : Nat) (ka : Option Addr) (kc : Nat) (ps : Bool) (w : World) (hin : XIn w nm ar A aa ac B ba bc) (hk : k = 11) :
    Calls Tryz.prog 55 #[xv k f t nm ar n s op A aa ac B ba bc pl pa pc kl ka kc] w fun r w' => r = .returned (.bool (Ex.nodeR k nm ar n s op A B pl ps kl)) ∧ Below w.heap.size w w' := by
  have hal := fun o : Obj => ((Below.refl w.heap.size w).alloc (Nat.le_refl _) o)
  have hnn : ∀ w, Calls Tryz.prog 88 #[.string ⟨nm.toArray⟩] w fun e w' => e = .returned (.bool (Wd.name nm)) ∧ w = w' := fun w => name_any ⟨nm.toArray⟩ (by show nm.toArray.size ≤ maxLen; rw [List.size_toArray]; have := hin.nm; unfold maxLen; omega) w
  have hna : ∀ w, Calls Tryz.prog 88 #[.string ⟨ar.toArray⟩] w fun e w' => e = .returned (.bool (Wd.name ar)) ∧ w = w' := fun w => name_any ⟨ar.toArray⟩ (by show ar.toArray.size ≤ maxLen; rw [List.size_toArray]; have := hin.ar; unfold maxLen; omega) w
  have hoa := fun W (hb : Below w.heap.size w W) => optional_any A aa ac W hin.sA (hin.tA.below hb (fun _ h => h) (fun _ h => Nat.lt_of_lt_of_le h hb.size))
  have hob := fun W (hb : Below w.heap.size w W) => optional_any B ba bc W hin.sB (hin.tB.below hb (fun _ h => h) (fun _ h => Nat.lt_of_lt_of_le h hb.size))
  have han := fun W (hb : Below w.heap.size w W) => annotation_any A aa ac W hin.sA (hin.tA.below hb (fun _ h => h) (fun _ h => Nat.lt_of_lt_of_le h hb.size))
  have htr := fun w => truth_any n w
  obtain ⟨bE, hbE, he⟩ : ∃ b, b = _ ∧ ∀ w, Calls Tryz.prog 92 _ w fun e w' => e = .returned (.bool b) ∧ Below w.heap.size w w' := ⟨_, rfl, fun w => empty_any k f t [] ar n s op (.mk 0 0 []) none 0 B ba bc pl pa pc kl ka kc w⟩
  unfold tv at hoa hob han
  simp only [zero_kind, zero_num, zero_kids] at he hbE
  unfold xv Ex.nodeR Ex.arity
  subst hk
  obtain ⟨nA, hnA⟩ : ∃ b, Tp.none A = b := ⟨_, rfl⟩
  obtain ⟨nB, hnB⟩ : ∃ b, Tp.none B = b := ⟨_, rfl⟩
  obtain ⟨oA, hoA⟩ : ∃ b, Tp.opt A = b := ⟨_, rfl⟩
  obtain ⟨oB, hoB⟩ : ∃ b, Tp.opt B = b := ⟨_, rfl⟩
  obtain ⟨rA, hrA⟩ : ∃ b, Tp.ann A = b := ⟨_, rfl⟩
  obtain ⟨bn, hbn⟩ : ∃ b, Wd.name nm = b := ⟨_, rfl⟩
  obtain ⟨br, hbr⟩ : ∃ b, Wd.name ar = b := ⟨_, rfl⟩
  simp only [hnA, hnB, hoA, hoB, hrA, hbn, hbr] at hbE he hnn hna hoa hob han ⊢
  obtain ⟨a0, ha0⟩ : ∃ k, A.kind = k := ⟨_, rfl⟩
  obtain ⟨a1, ha1⟩ : ∃ k, A.num = k := ⟨_, rfl⟩
  obtain ⟨a2, ha2⟩ : ∃ k, A.kids.length = k := ⟨_, rfl⟩
  obtain ⟨b0, hb0⟩ : ∃ k, B.kind = k := ⟨_, rfl⟩
  obtain ⟨b1, hb1⟩ : ∃ k, B.num = k := ⟨_, rfl⟩
  obtain ⟨b2, hb2⟩ : ∃ k, B.kids.length = k := ⟨_, rfl⟩
  simp only [ha0, ha1, ha2, hb0, hb1, hb2] at he hoa hob han ⊢
  have HAL := Lib.hid hal; have HNN := Lib.hid hnn; have HNA := Lib.hid hna; have HOA := Lib.hid hoa; have HOB := Lib.hid hob; have HAN := Lib.hid han; have HTR := Lib.hid htr; have HE := Lib.hid he; have HBQ := Lib.hid hbE
  clear hal hnn hna hoa hob han htr he hbE hnA hnB hoA hoB hrA hbn hbr ha0 ha1 ha2 hb0 hb1 hb2 hin
  cases bn with
  | false =>
    go_enter Tryz.func55, Tryz.ntmps55
    go_upto_region 38 with (go_at_call 88; with_reducible refine (HNN.out _).mono ?_; rintro e w0 ⟨rfl, rfl⟩)
    go_wp2_with fail
    go_ret
    exact ⟨ret_boolP (by simp), (HAL.out _)⟩
  | true =>
    go_enter Tryz.func55, Tryz.ntmps55
    go_upto_region 38 with (first | (go_at_call 88; with_reducible refine (HNN.out _).mono ?_; rintro e w0 ⟨rfl, rfl⟩) | (go_at_call 90; with_reducible refine (HOA.out _ (HAL.out _)).mono ?_; rintro e w1 ⟨rfl, hb⟩; have hx := (hb.block w.heap.size (by simp)).trans (World.alloc_heap_new w _); have c1_0 := cell_box (i := 0) hx rfl rfl; have c1_1 := cell_box (i := 1) hx rfl rfl; have c1_2 := cell_box (i := 2) hx rfl rfl; have c1_3 := cell_box (i := 3) hx rfl rfl; have c1_4 := cell_box (i := 4) hx rfl rfl; have c1_5 := cell_box (i := 5) hx rfl rfl; have c1_6 := cell_box (i := 6) hx rfl rfl; have c1_7 := cell_box (i := 7) hx rfl rfl; have c1_8 := cell_box (i := 8) hx rfl rfl; have c1_9 := cell_box (i := 9) hx rfl rfl; have c1_10 := cell_box (i := 10) hx rfl rfl; have c1_11 := cell_box (i := 11) hx rfl rfl; have c1_12 := cell_box (i := 12) hx rfl rfl; have c1_13 := cell_box (i := 13) hx rfl rfl; have c1_14 := cell_box (i := 14) hx rfl rfl; have c1_15 := cell_box (i := 15) hx rfl rfl; have f1_3 := frz (i := 3) hx; have f1_4 := frz (i := 4) hx; have f1_8 := frz (i := 8) hx; have f1_9 := frz (i := 9) hx; have f1_10 := frz (i := 10) hx; have f1_11 := frz (i := 11) hx; have f1_12 := frz (i := 12) hx; have f1_13 := frz (i := 13) hx; have HX1 := Lib.hid hx; have HB1 := Lib.hid hb; clear hb hx))
    cases oA with
    | false =>
      go_wp2_with fail
      go_ret
      exact ⟨ret_boolP (by simp), ((((((HAL.out _).trans (HB1.out.mono (by simp))).setCell (Nat.le_refl _) _).setCell (Nat.le_refl _) _).setCell (Nat.le_refl _) _).setCell (Nat.le_refl _) _)⟩
    | true =>
      by_cases hm : (kl : Int) = 2
      case neg =>
        have gm : ((kl : Int) == 2) = false := by simp; omega
        have gn : ¬ ((2 : Int) = (kl : Int)) := by omega
        clear hm
        go_wp2_with fail
        go_ret
        exact ⟨ret_boolP (by first | (simp; done) | (simp [gn]; done)), ((((((HAL.out _).trans (HB1.out.mono (by simp))).setCell (Nat.le_refl _) _).setCell (Nat.le_refl _) _).setCell (Nat.le_refl _) _).setCell (Nat.le_refl _) _)⟩
      obtain rfl : kl = 2 := by omega
      go_wp2_with (go_at_call 92; with_reducible refine (HE.out _).mono ?_; rintro e we ⟨rfl, hbe⟩; have HBE := Lib.hid hbe; clear hbe)
      go_ret
      exact ⟨ret_boolP (by rw [HBQ.out]; simp [zero_none]), ((((((HAL.out _).trans (HB1.out.mono (by simp))).setCell (Nat.le_refl _) _).setCell (Nat.le_refl _) _).setCell (Nat.le_refl _) _).setCell (Nat.le_refl _) _).trans (HBE.out.mono (by have := HB1.out.size; simp at this ⊢; omega))⟩
end Go.Proofs.YtmmhpibkjdlkgaaGreat

/- tree's rightExpr, walked: more kinds. tree's rightExpr, walked: more kinds. -/
import Derived.Test.YtmmhpibkjdlkgaaGreatTcE
import Derived.Test.YtmmhpibkjdlkgaaGreatSeqA
namespace Go.Proofs.YtmmhpibkjdlkgaaGreat
open Go Go.RowKit
open Tp (T)
open Ex (E)

set_option maxRecDepth 100000 in
set_option maxHeartbeats 16000000 in
theorem rightE_k5 (k f t : Int) (nm ar : List UInt8) (n : Int) (s : List UInt8) (op : Int) (A : T) (aa : Option Addr) (ac : Nat) (B : T) (ba : Option Addr) (bc : Nat) (pl : Nat) (pa : Option Addr) (pc : Nat) (kl : Nat) (ka : Option Addr) (kc : Nat) (ps : Bool) (w : World) (hin : XIn w nm ar A aa ac B ba bc) (hk : k = 5) :
    Calls Tryz.prog 55 #[xv k f t nm ar n s op A aa ac B ba bc pl pa pc kl ka kc] w fun r w' => r = .returned (.bool (Ex.nodeR k nm ar n s op A B pl ps kl)) ∧ Below w.heap.size w w' := by
  have hal := fun o : Obj => ((Below.refl w.heap.size w).alloc (Nat.le_refl _) o)
  have hnn : ∀ w, Calls Tryz.prog 88 #[.string ⟨nm.toArray⟩] w fun e w' => e = .returned (.bool (Wd.name nm)) ∧ w = w' := fun w => name_any ⟨nm.toArray⟩ (by show nm.toArray.size ≤ maxLen; rw [List.size_toArray]; have := hin.nm; unfold maxLen; omega) w
  have hna : ∀ w, Calls Tryz.prog 88 #[.string ⟨ar.toArray⟩] w fun e w' => e = .returned (.bool (Wd.name ar)) ∧ w = w' := fun w => name_any ⟨ar.toArray⟩ (by show ar.toArray.size ≤ maxLen; rw [List.size_toArray]; have := hin.ar; unfold maxLen; omega) w
  have hoa := fun W (hb : Below w.heap.size w W) => optional_any A aa ac W hin.sA (hin.tA.below hb (fun _ h => h) (fun _ h => Nat.lt_of_lt_of_le h hb.size))
  have hob := fun W (hb : Below w.heap.size w W) => optional_any B ba bc W hin.sB (hin.tB.below hb (fun _ h => h) (fun _ h => Nat.lt_of_lt_of_le h hb.size))
  have han := fun W (hb : Below w.heap.size w W) => annotation_any A aa ac W hin.sA (hin.tA.below hb (fun _ h => h) (fun _ h => Nat.lt_of_lt_of_le h hb.size))
  have htr := fun w => truth_any n w
  obtain ⟨bE, hbE, he⟩ : ∃ b, b = _ ∧ ∀ w, Calls Tryz.prog 92 _ w fun e w' => e = .returned (.bool b) ∧ Below w.heap.size w w' := ⟨_, rfl, fun w => empty_any k f t nm ar n s op A aa ac B ba bc pl pa pc kl ka kc w⟩
  unfold tv at hoa hob han
  unfold xv Ex.nodeR Ex.arity
  subst hk
  obtain ⟨nA, hnA⟩ : ∃ b, Tp.none A = b := ⟨_, rfl⟩
  obtain ⟨nB, hnB⟩ : ∃ b, Tp.none B = b := ⟨_, rfl⟩
  obtain ⟨oA, hoA⟩ : ∃ b, Tp.opt A = b := ⟨_, rfl⟩
  obtain ⟨oB, hoB⟩ : ∃ b, Tp.opt B = b := ⟨_, rfl⟩
  obtain ⟨rA, hrA⟩ : ∃ b, Tp.ann A = b := ⟨_, rfl⟩
  obtain ⟨bn, hbn⟩ : ∃ b, Wd.name nm = b := ⟨_, rfl⟩
  obtain ⟨br, hbr⟩ : ∃ b, Wd.name ar = b := ⟨_, rfl⟩
  simp only [hnA, hnB, hoA, hoB, hrA, hbn, hbr] at hbE he hnn hna hoa hob han ⊢
  obtain ⟨a0, ha0⟩ : ∃ k, A.kind = k := ⟨_, rfl⟩
  obtain ⟨a1, ha1⟩ : ∃ k, A.num = k := ⟨_, rfl⟩
  obtain ⟨a2, ha2⟩ : ∃ k, A.kids.length = k := ⟨_, rfl⟩
  obtain ⟨b0, hb0⟩ : ∃ k, B.kind = k := ⟨_, rfl⟩
  obtain ⟨b1, hb1⟩ : ∃ k, B.num = k := ⟨_, rfl⟩
  obtain ⟨b2, hb2⟩ : ∃ k, B.kids.length = k := ⟨_, rfl⟩
  simp only [ha0, ha1, ha2, hb0, hb1, hb2] at he hoa hob han ⊢
  have HAL := Lib.hid hal; have HNN := Lib.hid hnn; have HNA := Lib.hid hna; have HOA := Lib.hid hoa; have HOB := Lib.hid hob; have HAN := Lib.hid han; have HTR := Lib.hid htr; have HE := Lib.hid he; have HBQ := Lib.hid hbE
  clear hal hnn hna hoa hob han htr he hbE hnA hnB hoA hoB hrA hbn hbr ha0 ha1 ha2 hb0 hb1 hb2 hin
  go_enter Tryz.func55, Tryz.ntmps55
  go_upto_region 38 with fail
  by_cases hm : (kl : Int) = 0
  case neg =>
    have gm : ((kl : Int) == 0) = false := by simp; omega
    have gn : ¬ ((0 : Int) = (kl : Int)) := by omega
    clear hm
    go_wp2_with fail
    go_ret
    exact ⟨ret_boolP (by first | (simp; done) | (simp [gn]; done)), (HAL.out _)⟩
  obtain rfl : kl = 0 := by omega
  go_wp2_with (go_at_call 92; with_reducible refine (HE.out _).mono ?_; rintro e we ⟨rfl, hbe⟩; have HBE := Lib.hid hbe; clear hbe)
  go_ret
  exact ⟨ret_boolP (by rw [HBQ.out]; first | done | simp), (HAL.out _).trans (HBE.out.mono (by simp))⟩
set_option maxRecDepth 100000 in
set_option maxHeartbeats 16000000 in
theorem rightE_k7 (k f t : Int) (nm ar : List UInt8) (n : Int) (s : List UInt8) (op : Int) (A : T) (aa : Option Addr) (ac : Nat) (B : T) (ba : Option Addr) (bc : Nat) (pl : Nat) (pa : Option Addr) (pc : Nat) (kl : Nat) (ka : Option Addr) (kc : Nat) (ps : Bool) (w : World) (hin : XIn w nm ar A aa ac B ba bc) (hk : k = 7) :
    Calls Tryz.prog 55 #[xv k f t nm ar n s op A aa ac B ba bc pl pa pc kl ka kc] w fun r w' => r = .returned (.bool (Ex.nodeR k nm ar n s op A B pl ps kl)) ∧ Below w.heap.size w w' := by
  have hal := fun o : Obj => ((Below.refl w.heap.size w).alloc (Nat.le_refl _) o)
  have hnn : ∀ w, Calls Tryz.prog 88 #[.string ⟨nm.toArray⟩] w fun e w' => e = .returned (.bool (Wd.name nm)) ∧ w = w' := fun w => name_any ⟨nm.toArray⟩ (by show nm.toArray.size ≤ maxLen; rw [List.size_toArray]; have := hin.nm; unfold maxLen; omega) w
  have hna : ∀ w, Calls Tryz.prog 88 #[.string ⟨ar.toArray⟩] w fun e w' => e = .returned (.bool (Wd.name ar)) ∧ w = w' := fun w => name_any ⟨ar.toArray⟩ (by show ar.toArray.size ≤ maxLen; rw [List.size_toArray]; have := hin.ar; unfold maxLen; omega) w
  have hoa := fun W (hb : Below w.heap.size w W) => optional_any A aa ac W hin.sA (hin.tA.below hb (fun _ h => h) (fun _ h => Nat.lt_of_lt_of_le h hb.size))
  have hob := fun W (hb : Below w.heap.size w W) => optional_any B ba bc W hin.sB (hin.tB.below hb (fun _ h => h) (fun _ h => Nat.lt_of_lt_of_le h hb.size))
  have han := fun W (hb : Below w.heap.size w W) => annotation_any A aa ac W hin.sA (hin.tA.below hb (fun _ h => h) (fun _ h => Nat.lt_of_lt_of_le h hb.size))
  have htr := fun w => truth_any n w
  obtain ⟨bE, hbE, he⟩ : ∃ b, b = _ ∧ ∀ w, Calls Tryz.prog 92 _ w fun e w' => e = .returned (.bool b) ∧ Below w.heap.size w w' := ⟨_, rfl, fun w => empty_any k f t nm ar n s op A aa ac B ba bc pl pa pc kl ka kc w⟩
  unfold tv at hoa hob han
  unfold xv Ex.nodeR Ex.arity
  subst hk
  obtain ⟨nA, hnA⟩ : ∃ b, Tp.none A = b := ⟨_, rfl⟩
  obtain ⟨nB, hnB⟩ : ∃ b, Tp.none B = b := ⟨_, rfl⟩
  obtain ⟨oA, hoA⟩ : ∃ b, Tp.opt A = b := ⟨_, rfl⟩
  obtain ⟨oB, hoB⟩ : ∃ b, Tp.opt B = b := ⟨_, rfl⟩
  obtain ⟨rA, hrA⟩ : ∃ b, Tp.ann A = b := ⟨_, rfl⟩
  obtain ⟨bn, hbn⟩ : ∃ b, Wd.name nm = b := ⟨_, rfl⟩
  obtain ⟨br, hbr⟩ : ∃ b, Wd.name ar = b := ⟨_, rfl⟩
  simp only [hnA, hnB, hoA, hoB, hrA, hbn, hbr] at hbE he hnn hna hoa hob han ⊢
  obtain ⟨a0, ha0⟩ : ∃ k, A.kind = k := ⟨_, rfl⟩
  obtain ⟨a1, ha1⟩ : ∃ k, A.num = k := ⟨_, rfl⟩
  obtain ⟨a2, ha2⟩ : ∃ k, A.kids.length = k := ⟨_, rfl⟩
  obtain ⟨b0, hb0⟩ : ∃ k, B.kind = k := ⟨_, rfl⟩
  obtain ⟨b1, hb1⟩ : ∃ k, B.num = k := ⟨_, rfl⟩
  obtain ⟨b2, hb2⟩ : ∃ k, B.kids.length = k := ⟨_, rfl⟩
  simp only [ha0, ha1, ha2, hb0, hb1, hb2] at he hoa hob han ⊢
  have HAL := Lib.hid hal; have HNN := Lib.hid hnn; have HNA := Lib.hid hna; have HOA := Lib.hid hoa; have HOB := Lib.hid hob; have HAN := Lib.hid han; have HTR := Lib.hid htr; have HE := Lib.hid he; have HBQ := Lib.hid hbE
  clear hal hnn hna hoa hob han htr he hbE hnA hnB hoA hoB hrA hbn hbr ha0 ha1 ha2 hb0 hb1 hb2 hin
  go_enter Tryz.func55, Tryz.ntmps55
  go_upto_region 38 with fail
  by_cases hm : (kl : Int) = 0
  case neg =>
    have gm : ((kl : Int) == 0) = false := by simp; omega
    have gn : ¬ ((0 : Int) = (kl : Int)) := by omega
    clear hm
    go_wp2_with fail
    go_ret
    exact ⟨ret_boolP (by first | (simp; done) | (simp [gn]; done)), (HAL.out _)⟩
  obtain rfl : kl = 0 := by omega
  go_wp2_with (go_at_call 92; with_reducible refine (HE.out _).mono ?_; rintro e we ⟨rfl, hbe⟩; have HBE := Lib.hid hbe; clear hbe)
  go_ret
  exact ⟨ret_boolP (by rw [HBQ.out]; first | done | simp), (HAL.out _).trans (HBE.out.mono (by simp))⟩
set_option maxRecDepth 100000 in
set_option maxHeartbeats 16000000 in
theorem rightE_k6 (k f t : Int) (nm ar : List UInt8) (n : Int) (s : List UInt8) (op : Int) (A : T) (aa : Option Addr) (ac : Nat) (B : T) (ba : Option Addr) (bc : Nat) (pl : Nat) (pa : Option Addr) (pc : Nat) (kl : Nat) (ka : Option Addr) (kc : Nat) (ps : Bool) (w : World) (hin : XIn w nm ar A aa ac B ba bc) (hk : k = 6) :
    Calls Tryz.prog 55 #[xv k f t nm ar n s op A aa ac B ba bc pl pa pc kl ka kc] w fun r w' => r = .returned (.bool (Ex.nodeR k nm ar n s op A B pl ps kl)) ∧ Below w.heap.size w w' := by
  have hal := fun o : Obj => ((Below.refl w.heap.size w).alloc (Nat.le_refl _) o)
  have hnn : ∀ w, Calls Tryz.prog 88 #[.string ⟨nm.toArray⟩] w fun e w' => e = .returned (.bool (Wd.name nm)) ∧ w = w' := fun w => name_any ⟨nm.toArray⟩ (by show nm.toArray.size ≤ maxLen; rw [List.size_toArray]; have := hin.nm; unfold maxLen; omega) w
  have hna : ∀ w, Calls Tryz.prog 88 #[.string ⟨ar.toArray⟩] w fun e w' => e = .returned (.bool (Wd.name ar)) ∧ w = w' := fun w => name_any ⟨ar.toArray⟩ (by show ar.toArray.size ≤ maxLen; rw [List.size_toArray]; have := hin.ar; unfold maxLen; omega) w
  have hoa := fun W (hb : Below w.heap.size w W) => optional_any A aa ac W hin.sA (hin.tA.below hb (fun _ h => h) (fun _ h => Nat.lt_of_lt_of_le h hb.size))
  have hob := fun W (hb : Below w.heap.size w W) => optional_any B ba bc W hin.sB (hin.tB.below hb (fun _ h => h) (fun _ h => Nat.lt_of_lt_of_le h hb.size))
  have han := fun W (hb : Below w.heap.size w W) => annotation_any A aa ac W hin.sA (hin.tA.below hb (fun _ h => h) (fun _ h => Nat.lt_of_lt_of_le h hb.size))
  have htr := fun w => truth_any n w
  obtain ⟨bE, hbE, he⟩ : ∃ b, b = _ ∧ ∀ w, Calls Tryz.prog 92 _ w fun e w' => e = .returned (.bool b) ∧ Below w.heap.size w w' := ⟨_, rfl, fun w => empty_any k f t nm ar n s op A aa ac B ba bc pl pa pc kl ka kc w⟩
  unfold tv at hoa hob han
  unfold xv Ex.nodeR Ex.arity
  subst hk
  obtain ⟨nA, hnA⟩ : ∃ b, Tp.none A = b := ⟨_, rfl⟩
  obtain ⟨nB, hnB⟩ : ∃ b, Tp.none B = b := ⟨_, rfl⟩
  obtain ⟨oA, hoA⟩ : ∃ b, Tp.opt A = b := ⟨_, rfl⟩
  obtain ⟨oB, hoB⟩ : ∃ b, Tp.opt B = b := ⟨_, rfl⟩
  obtain ⟨rA, hrA⟩ : ∃ b, Tp.ann A = b := ⟨_, rfl⟩
  obtain ⟨bn, hbn⟩ : ∃ b, Wd.name nm = b := ⟨_, rfl⟩
  obtain ⟨br, hbr⟩ : ∃ b, Wd.name ar = b := ⟨_, rfl⟩
  simp only [hnA, hnB, hoA, hoB, hrA, hbn, hbr] at hbE he hnn hna hoa hob han ⊢
  obtain ⟨a0, ha0⟩ : ∃ k, A.kind = k := ⟨_, rfl⟩
  obtain ⟨a1, ha1⟩ : ∃ k, A.num = k := ⟨_, rfl⟩
  obtain ⟨a2, ha2⟩ : ∃ k, A.kids.length = k := ⟨_, rfl⟩
  obtain ⟨b0, hb0⟩ : ∃ k, B.kind = k := ⟨_, rfl⟩
  obtain ⟨b1, hb1⟩ : ∃ k, B.num = k := ⟨_, rfl⟩
  obtain ⟨b2, hb2⟩ : ∃ k, B.kids.length = k := ⟨_, rfl⟩
  simp only [ha0, ha1, ha2, hb0, hb1, hb2] at he hoa hob han ⊢
  have HAL := Lib.hid hal; have HNN := Lib.hid hnn; have HNA := Lib.hid hna; have HOA := Lib.hid hoa; have HOB := Lib.hid hob; have HAN := Lib.hid han; have HTR := Lib.hid htr; have HE := Lib.hid he; have HBQ := Lib.hid hbE
  clear hal hnn hna hoa hob han htr he hbE hnA hnB hoA hoB hrA hbn hbr ha0 ha1 ha2 hb0 hb1 hb2 hin
  go_enter Tryz.func55, Tryz.ntmps55
  go_upto_region 38 with fail
  by_cases hm : (kl : Int) = 2
  case neg =>
    have gm : ((kl : Int) == 2) = false := by simp; omega
    have gn : ¬ ((2 : Int) = (kl : Int)) := by omega
    clear hm
    go_wp2_with fail
    go_ret
    exact ⟨ret_boolP (by first | (simp; done) | (simp [gn]; done)), (HAL.out _)⟩
  obtain rfl : kl = 2 := by omega
  go_wp2_with (go_at_call 92; with_reducible refine (HE.out _).mono ?_; rintro e we ⟨rfl, hbe⟩; have HBE := Lib.hid hbe; clear hbe)
  go_ret
  exact ⟨ret_boolP (by rw [HBQ.out]; first | done | simp), (HAL.out _).trans (HBE.out.mono (by simp))⟩
end Go.Proofs.YtmmhpibkjdlkgaaGreat
namespace Go.Proofs.YtmmhpibkjdlkgaaGreat
open Go Go.RowKit
open Tp (T)
open Ex (E)

set_option maxRecDepth 100000 in
set_option maxHeartbeats 16000000 in
theorem rightE_k8 (k f t : Int) (nm ar : List UInt8) (n : Int) (s : List UInt8) (op : Int) (A : T) (aa : Option Addr) (ac : Nat) (B : T) (ba : Option Addr) (bc : Nat) (pl : Nat) (pa : Option Addr) (pc : Nat) (kl : Nat) (ka : Option Addr) (kc : Nat) (ps : Bool) (w : World) (hin : XIn w nm ar A aa ac B ba bc) (hk : k = 8) :
    Calls Tryz.prog 55 #[xv k f t nm ar n s op A aa ac B ba bc pl pa pc kl ka kc] w fun r w' => r = .returned (.bool (Ex.nodeR k nm ar n s op A B pl ps kl)) ∧ Below w.heap.size w w' := by
  have hal := fun o : Obj => ((Below.refl w.heap.size w).alloc (Nat.le_refl _) o)
  have hnn : ∀ w, Calls Tryz.prog 88 #[.string ⟨nm.toArray⟩] w fun e w' => e = .returned (.bool (Wd.name nm)) ∧ w = w' := fun w => name_any ⟨nm.toArray⟩ (by show nm.toArray.size ≤ maxLen; rw [List.size_toArray]; have := hin.nm; unfold maxLen; omega) w
  have hna : ∀ w, Calls Tryz.prog 88 #[.string ⟨ar.toArray⟩] w fun e w' => e = .returned (.bool (Wd.name ar)) ∧ w = w' := fun w => name_any ⟨ar.toArray⟩ (by show ar.toArray.size ≤ maxLen; rw [List.size_toArray]; have := hin.ar; unfold maxLen; omega) w
  have hoa := fun W (hb : Below w.heap.size w W) => optional_any A aa ac W hin.sA (hin.tA.below hb (fun _ h => h) (fun _ h => Nat.lt_of_lt_of_le h hb.size))
  have hob := fun W (hb : Below w.heap.size w W) => optional_any B ba bc W hin.sB (hin.tB.below hb (fun _ h => h) (fun _ h => Nat.lt_of_lt_of_le h hb.size))
  have han := fun W (hb : Below w.heap.size w W) => annotation_any A aa ac W hin.sA (hin.tA.below hb (fun _ h => h) (fun _ h => Nat.lt_of_lt_of_le h hb.size))
  have htr := fun w => truth_any n w
  obtain ⟨bE, hbE, he⟩ : ∃ b, b = _ ∧ ∀ w, Calls Tryz.prog 92 _ w fun e w' => e = .returned (.bool b) ∧ Below w.heap.size w w' := ⟨_, rfl, fun w => empty_any k f t nm ar n s op A aa ac B ba bc pl pa pc kl ka kc w⟩
  unfold tv at hoa hob han
  unfold xv Ex.nodeR Ex.arity
  subst hk
  obtain ⟨nA, hnA⟩ : ∃ b, Tp.none A = b := ⟨_, rfl⟩
  obtain ⟨nB, hnB⟩ : ∃ b, Tp.none B = b := ⟨_, rfl⟩
  obtain ⟨oA, hoA⟩ : ∃ b, Tp.opt A = b := ⟨_, rfl⟩
  obtain ⟨oB, hoB⟩ : ∃ b, Tp.opt B = b := ⟨_, rfl⟩
  obtain ⟨rA, hrA⟩ : ∃ b, Tp.ann A = b := ⟨_, rfl⟩
  obtain ⟨bn, hbn⟩ : ∃ b, Wd.name nm = b := ⟨_, rfl⟩
  obtain ⟨br, hbr⟩ : ∃ b, Wd.name ar = b := ⟨_, rfl⟩
  simp only [hnA, hnB, hoA, hoB, hrA, hbn, hbr] at hbE he hnn hna hoa hob han ⊢
  obtain ⟨a0, ha0⟩ : ∃ k, A.kind = k := ⟨_, rfl⟩
  obtain ⟨a1, ha1⟩ : ∃ k, A.num = k := ⟨_, rfl⟩
  obtain ⟨a2, ha2⟩ : ∃ k, A.kids.length = k := ⟨_, rfl⟩
  obtain ⟨b0, hb0⟩ : ∃ k, B.kind = k := ⟨_, rfl⟩
  obtain ⟨b1, hb1⟩ : ∃ k, B.num = k := ⟨_, rfl⟩
  obtain ⟨b2, hb2⟩ : ∃ k, B.kids.length = k := ⟨_, rfl⟩
  simp only [ha0, ha1, ha2, hb0, hb1, hb2] at he hoa hob han ⊢
  have HAL := Lib.hid hal; have HNN := Lib.hid hnn; have HNA := Lib.hid hna; have HOA := Lib.hid hoa; have HOB := Lib.hid hob; have HAN := Lib.hid han; have HTR := Lib.hid htr; have HE := Lib.hid he; have HBQ := Lib.hid hbE
  clear hal hnn hna hoa hob han htr he hbE hnA hnB hoA hoB hrA hbn hbr ha0 ha1 ha2 hb0 hb1 hb2 hin
  go_enter Tryz.func55, Tryz.ntmps55
  go_upto_region 38 with fail
  by_cases hm : (kl : Int) = 2
  case neg =>
    have gm : ((kl : Int) == 2) = false := by simp; omega
    have gn : ¬ ((2 : Int) = (kl : Int)) := by omega
    clear hm
    go_wp2_with fail
    go_ret
    exact ⟨ret_boolP (by first | (simp; done) | (simp [gn]; done)), (HAL.out _)⟩
  obtain rfl : kl = 2 := by omega
  go_wp2_with (go_at_call 92; with_reducible refine (HE.out _).mono ?_; rintro e we ⟨rfl, hbe⟩; have HBE := Lib.hid hbe; clear hbe)
  go_ret
  exact ⟨ret_boolP (by rw [HBQ.out]; first | done | simp), (HAL.out _).trans (HBE.out.mono (by simp))⟩
set_option maxRecDepth 100000 in
set_option maxHeartbeats 16000000 in
theorem rightE_k10 (k f t : Int) (nm ar : List UInt8) (n : Int) (s : List UInt8) (op : Int) (A : T) (aa : Option Addr) (ac : Nat) (B : T) (ba : Option Addr) (bc : Nat) (pl : Nat) (pa : Option Addr) (pc : Nat) (kl : Nat) (ka : Option Addr) (kc : Nat) (ps : Bool) (w : World) (hin : XIn w nm ar A aa ac B ba bc) (hk : k = 10) :
    Calls Tryz.prog 55 #[xv k f t nm ar n s op A aa ac B ba bc pl pa pc kl ka kc] w fun r w' => r = .returned (.bool (Ex.nodeR k nm ar n s op A B pl ps kl)) ∧ Below w.heap.size w w' := by
  have hal := fun o : Obj => ((Below.refl w.heap.size w).alloc (Nat.le_refl _) o)
  have hnn : ∀ w, Calls Tryz.prog 88 #[.string ⟨nm.toArray⟩] w fun e w' => e = .returned (.bool (Wd.name nm)) ∧ w = w' := fun w => name_any ⟨nm.toArray⟩ (by show nm.toArray.size ≤ maxLen; rw [List.size_toArray]; have := hin.nm; unfold maxLen; omega) w
  have hna : ∀ w, Calls Tryz.prog 88 #[.string ⟨ar.toArray⟩] w fun e w' => e = .returned (.bool (Wd.name ar)) ∧ w = w' := fun w => name_any ⟨ar.toArray⟩ (by show ar.toArray.size ≤ maxLen; rw [List.size_toArray]; have := hin.ar; unfold maxLen; omega) w
  have hoa := fun W (hb : Below w.heap.size w W) => optional_any A aa ac W hin.sA (hin.tA.below hb (fun _ h => h) (fun _ h => Nat.lt_of_lt_of_le h hb.size))
  have hob := fun W (hb : Below w.heap.size w W) => optional_any B ba bc W hin.sB (hin.tB.below hb (fun _ h => h) (fun _ h => Nat.lt_of_lt_of_le h hb.size))
  have han := fun W (hb : Below w.heap.size w W) => annotation_any A aa ac W hin.sA (hin.tA.below hb (fun _ h => h) (fun _ h => Nat.lt_of_lt_of_le h hb.size))
  have htr := fun w => truth_any n w
  obtain ⟨bE, hbE, he⟩ : ∃ b, b = _ ∧ ∀ w, Calls Tryz.prog 92 _ w fun e w' => e = .returned (.bool b) ∧ Below w.heap.size w w' := ⟨_, rfl, fun w => empty_any k f t nm ar n s op A aa ac B ba bc pl pa pc kl ka kc w⟩
  unfold tv at hoa hob han
  unfold xv Ex.nodeR Ex.arity
  subst hk
  obtain ⟨nA, hnA⟩ : ∃ b, Tp.none A = b := ⟨_, rfl⟩
  obtain ⟨nB, hnB⟩ : ∃ b, Tp.none B = b := ⟨_, rfl⟩
  obtain ⟨oA, hoA⟩ : ∃ b, Tp.opt A = b := ⟨_, rfl⟩
  obtain ⟨oB, hoB⟩ : ∃ b, Tp.opt B = b := ⟨_, rfl⟩
  obtain ⟨rA, hrA⟩ : ∃ b, Tp.ann A = b := ⟨_, rfl⟩
  obtain ⟨bn, hbn⟩ : ∃ b, Wd.name nm = b := ⟨_, rfl⟩
  obtain ⟨br, hbr⟩ : ∃ b, Wd.name ar = b := ⟨_, rfl⟩
  simp only [hnA, hnB, hoA, hoB, hrA, hbn, hbr] at hbE he hnn hna hoa hob han ⊢
  obtain ⟨a0, ha0⟩ : ∃ k, A.kind = k := ⟨_, rfl⟩
  obtain ⟨a1, ha1⟩ : ∃ k, A.num = k := ⟨_, rfl⟩
  obtain ⟨a2, ha2⟩ : ∃ k, A.kids.length = k := ⟨_, rfl⟩
  obtain ⟨b0, hb0⟩ : ∃ k, B.kind = k := ⟨_, rfl⟩
  obtain ⟨b1, hb1⟩ : ∃ k, B.num = k := ⟨_, rfl⟩
  obtain ⟨b2, hb2⟩ : ∃ k, B.kids.length = k := ⟨_, rfl⟩
  simp only [ha0, ha1, ha2, hb0, hb1, hb2] at he hoa hob han ⊢
  have HAL := Lib.hid hal; have HNN := Lib.hid hnn; have HNA := Lib.hid hna; have HOA := Lib.hid hoa; have HOB := Lib.hid hob; have HAN := Lib.hid han; have HTR := Lib.hid htr; have HE := Lib.hid he; have HBQ := Lib.hid hbE
  clear hal hnn hna hoa hob han htr he hbE hnA hnB hoA hoB hrA hbn hbr ha0 ha1 ha2 hb0 hb1 hb2 hin
  go_enter Tryz.func55, Tryz.ntmps55
  go_upto_region 38 with fail
  by_cases hm : (kl : Int) = 2
  case neg =>
    have gm : ((kl : Int) == 2) = false := by simp; omega
    have gn : ¬ ((2 : Int) = (kl : Int)) := by omega
    clear hm
    go_wp2_with fail
    go_ret
    exact ⟨ret_boolP (by first | (simp; done) | (simp [gn]; done)), (HAL.out _)⟩
  obtain rfl : kl = 2 := by omega
  go_wp2_with (go_at_call 92; with_reducible refine (HE.out _).mono ?_; rintro e we ⟨rfl, hbe⟩; have HBE := Lib.hid hbe; clear hbe)
  go_ret
  exact ⟨ret_boolP (by rw [HBQ.out]; first | done | simp), (HAL.out _).trans (HBE.out.mono (by simp))⟩
set_option maxRecDepth 100000 in
set_option maxHeartbeats 16000000 in
theorem rightE_k13 (k f t : Int) (nm ar : List UInt8) (n : Int) (s : List UInt8) (op : Int) (A : T) (aa : Option Addr) (ac : Nat) (B : T) (ba : Option Addr) (bc : Nat) (pl : Nat) (pa : Option Addr) (pc : Nat) (kl : Nat) (ka : Option Addr) (kc : Nat) (ps : Bool) (w : World) (hin : XIn w nm ar A aa ac B ba bc) (hk : k = 13) :
    Calls Tryz.prog 55 #[xv k f t nm ar n s op A aa ac B ba bc pl pa pc kl ka kc] w fun r w' => r = .returned (.bool (Ex.nodeR k nm ar n s op A B pl ps kl)) ∧ Below w.heap.size w w' := by
  have hal := fun o : Obj => ((Below.refl w.heap.size w).alloc (Nat.le_refl _) o)
  have hnn : ∀ w, Calls Tryz.prog 88 #[.string ⟨nm.toArray⟩] w fun e w' => e = .returned (.bool (Wd.name nm)) ∧ w = w' := fun w => name_any ⟨nm.toArray⟩ (by show nm.toArray.size ≤ maxLen; rw [List.size_toArray]; have := hin.nm; unfold maxLen; omega) w
  have hna : ∀ w, Calls Tryz.prog 88 #[.string ⟨ar.toArray⟩] w fun e w' => e = .returned (.bool (Wd.name ar)) ∧ w = w' := fun w => name_any ⟨ar.toArray⟩ (by show ar.toArray.size ≤ maxLen; rw [List.size_toArray]; have := hin.ar; unfold maxLen; omega) w
  have hoa := fun W (hb : Below w.heap.size w W) => optional_any A aa ac W hin.sA (hin.tA.below hb (fun _ h => h) (fun _ h => Nat.lt_of_lt_of_le h hb.size))
  have hob := fun W (hb : Below w.heap.size w W) => optional_any B ba bc W hin.sB (hin.tB.below hb (fun _ h => h) (fun _ h => Nat.lt_of_lt_of_le h hb.size))
  have han := fun W (hb : Below w.heap.size w W) => annotation_any A aa ac W hin.sA (hin.tA.below hb (fun _ h => h) (fun _ h => Nat.lt_of_lt_of_le h hb.size))
  have htr := fun w => truth_any n w
  obtain ⟨bE, hbE, he⟩ : ∃ b, b = _ ∧ ∀ w, Calls Tryz.prog 92 _ w fun e w' => e = .returned (.bool b) ∧ Below w.heap.size w w' := ⟨_, rfl, fun w => empty_any k f t nm ar n s op A aa ac B ba bc pl pa pc kl ka kc w⟩
  unfold tv at hoa hob han
  unfold xv Ex.nodeR Ex.arity
  subst hk
  obtain ⟨nA, hnA⟩ : ∃ b, Tp.none A = b := ⟨_, rfl⟩
  obtain ⟨nB, hnB⟩ : ∃ b, Tp.none B = b := ⟨_, rfl⟩
  obtain ⟨oA, hoA⟩ : ∃ b, Tp.opt A = b := ⟨_, rfl⟩
  obtain ⟨oB, hoB⟩ : ∃ b, Tp.opt B = b := ⟨_, rfl⟩
  obtain ⟨rA, hrA⟩ : ∃ b, Tp.ann A = b := ⟨_, rfl⟩
  obtain ⟨bn, hbn⟩ : ∃ b, Wd.name nm = b := ⟨_, rfl⟩
  obtain ⟨br, hbr⟩ : ∃ b, Wd.name ar = b := ⟨_, rfl⟩
  simp only [hnA, hnB, hoA, hoB, hrA, hbn, hbr] at hbE he hnn hna hoa hob han ⊢
  obtain ⟨a0, ha0⟩ : ∃ k, A.kind = k := ⟨_, rfl⟩
  obtain ⟨a1, ha1⟩ : ∃ k, A.num = k := ⟨_, rfl⟩
  obtain ⟨a2, ha2⟩ : ∃ k, A.kids.length = k := ⟨_, rfl⟩
  obtain ⟨b0, hb0⟩ : ∃ k, B.kind = k := ⟨_, rfl⟩
  obtain ⟨b1, hb1⟩ : ∃ k, B.num = k := ⟨_, rfl⟩
  obtain ⟨b2, hb2⟩ : ∃ k, B.kids.length = k := ⟨_, rfl⟩
  simp only [ha0, ha1, ha2, hb0, hb1, hb2] at he hoa hob han ⊢
  have HAL := Lib.hid hal; have HNN := Lib.hid hnn; have HNA := Lib.hid hna; have HOA := Lib.hid hoa; have HOB := Lib.hid hob; have HAN := Lib.hid han; have HTR := Lib.hid htr; have HE := Lib.hid he; have HBQ := Lib.hid hbE
  clear hal hnn hna hoa hob han htr he hbE hnA hnB hoA hoB hrA hbn hbr ha0 ha1 ha2 hb0 hb1 hb2 hin
  go_enter Tryz.func55, Tryz.ntmps55
  go_upto_region 38 with fail
  by_cases hm : (kl : Int) = 3
  case neg =>
    have gm : ((kl : Int) == 3) = false := by simp; omega
    have gn : ¬ ((3 : Int) = (kl : Int)) := by omega
    clear hm
    go_wp2_with fail
    go_ret
    exact ⟨ret_boolP (by first | (simp; done) | (simp [gn]; done)), (HAL.out _)⟩
  obtain rfl : kl = 3 := by omega
  go_wp2_with (go_at_call 92; with_reducible refine (HE.out _).mono ?_; rintro e we ⟨rfl, hbe⟩; have HBE := Lib.hid hbe; clear hbe)
  go_ret
  exact ⟨ret_boolP (by rw [HBQ.out]; first | done | simp), (HAL.out _).trans (HBE.out.mono (by simp))⟩
end Go.Proofs.YtmmhpibkjdlkgaaGreat

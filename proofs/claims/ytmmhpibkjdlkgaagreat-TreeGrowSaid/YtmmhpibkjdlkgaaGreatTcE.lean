/- tree's rightExpr, walked: a theorem for each kind of expression. -/
import Derived.Test.YtmmhpibkjdlkgaaGreatTeG
import Derived.Test.YtmmhpibkjdlkgaaGreatTcB
namespace Go.Proofs.YtmmhpibkjdlkgaaGreat
open Go Go.RowKit
open Tp (T)
open Ex (E)

namespace Ex
def arity (k : Int) (np : Nat) : Int := if k = 1 ∨ k = 2 ∨ k = 3 ∨ k = 4 ∨ k = 5 ∨ k = 7 then 0 else if k = 6 ∨ k = 8 ∨ k = 10 ∨ k = 11 ∨ k = 12 ∨ k = 16 then 2 else if k = 9 ∨ k = 15 then 1 else if k = 13 then 3 else if k = 14 then (np : Int) + 1 else -1
/-- Is one expression right, whatever its kids are? ps: are its patterns right? -/
def nodeR (k : Int) (nm ar : List UInt8) (n : Int) (s : List UInt8) (op : Int) (A B : T) (np : Nat) (ps : Bool) (len : Nat) : Bool :=
  decide (arity k np = len) && (if k = 1 ∨ k = 9 ∨ k = 11 ∨ k = 12 then Wd.name nm else decide (nm = [])) && (if k = 12 then Wd.name ar else decide (ar = [])) &&
  (if k = 2 then true else if k = 3 then decide (0 ≤ n ∧ n ≤ 1) else decide (n = 0)) && (if k = 4 then decide (s.length ≤ 200) else decide (s = [])) && (if k = 16 then decide (1 ≤ op) && decide (op ≤ 7) else decide (op = 0)) &&
  (if k = 9 ∨ k = 11 ∨ k = 12 then Tp.opt A else if k = 15 then Tp.ann A else Tp.none A) && (if k = 12 then Tp.opt B else Tp.none B) && (if k = 14 then decide (0 < np) && ps else decide (np = 0))
def nodeRight (e : E) : Bool := nodeR e.kind e.nm e.ar e.num e.s e.op e.a e.b e.pats.length (e.pats.all Tr.right) e.kids.length
end Ex
/-- What rightExpr's walk knows of the value that it is handed. -/
structure XIn (w : World) (nm ar : List UInt8) (A : T) (aa : Option Addr) (ac : Nat) (B : T) (ba : Option Addr) (bc : Nat) : Prop where
  nm : nm.length ≤ 300
  ar : ar.length ≤ 300
  sA : Tp.size A ≤ 10000
  sB : Tp.size B ≤ 10000
  tA : TyAt (LT w.heap.size) w A aa ac
  tB : TyAt (LT w.heap.size) w B ba bc
def xv (k f t : Int) (nm ar : List UInt8) (n : Int) (s : List UInt8) (op : Int) (A : T) (aa : Option Addr) (ac : Nat) (B : T) (ba : Option Addr) (bc : Nat) (pl : Nat) (pa : Option Addr) (pc : Nat) (kl : Nat) (ka : Option Addr) (kc : Nat) : Value :=
  .agg #[.int .i64 k, .int .i64 f, .int .i64 t, .string ⟨nm.toArray⟩, .string ⟨ar.toArray⟩, .int .i64 n, .string ⟨s.toArray⟩, .int .i64 op, .int .i64 A.kind, .int .i64 A.num, .slice aa A.kids.length ac, .int .i64 B.kind, .int .i64 B.num, .slice ba B.kids.length bc, .slice pa pl pc, .slice ka kl kc]
theorem zero_kind : Tp.T.kind (.mk 0 0 []) = 0 := rfl
theorem zero_num : Tp.T.num (.mk 0 0 []) = 0 := rfl
theorem zero_kids : (Tp.T.kids (.mk 0 0 [])).length = 0 := rfl
theorem zero_none : Tp.none (.mk 0 0 []) = true := rfl
theorem frz {W : World} {b i : Nat} {cs : Array Value} {t : TypeId} (h : W.heap[b]? = some (.cells cs t)) : W.frozen? ⟨b, i, none⟩ = false := by simp [World.frozen?, h]
set_option maxRecDepth 100000 in
set_option maxHeartbeats 16000000 in
theorem rightE_k2 (k f t : Int) (nm ar : List UInt8) (n : Int) (s : List UInt8) (op : Int) (A : T) (aa : Option Addr) (ac : Nat) (B : T) (ba : Option Addr) (bc : Nat) (pl : Nat) (pa : Option Addr) (pc : Nat) (kl : Nat) (ka : Option Addr) (kc : Nat) (ps : Bool) (w : World) (hin : XIn w nm ar A aa ac B ba bc) (hk : k = 2) :
    Calls Tryz.prog 55 #[xv k f t nm ar n s op A aa ac B ba bc pl pa pc kl ka kc] w fun r w' => r = .returned (.bool (Ex.nodeR k nm ar n s op A B pl ps kl)) ∧ Below w.heap.size w w' := by
  have hal := fun o : Obj => ((Below.refl w.heap.size w).alloc (Nat.le_refl _) o)
  have hnn : ∀ w, Calls Tryz.prog 88 #[.string ⟨nm.toArray⟩] w fun e w' => e = .returned (.bool (Wd.name nm)) ∧ w = w' := fun w => name_any ⟨nm.toArray⟩ (by show nm.toArray.size ≤ maxLen; rw [List.size_toArray]; have := hin.nm; unfold maxLen; omega) w
  have hna : ∀ w, Calls Tryz.prog 88 #[.string ⟨ar.toArray⟩] w fun e w' => e = .returned (.bool (Wd.name ar)) ∧ w = w' := fun w => name_any ⟨ar.toArray⟩ (by show ar.toArray.size ≤ maxLen; rw [List.size_toArray]; have := hin.ar; unfold maxLen; omega) w
  have hoa := fun W (hb : Below w.heap.size w W) => optional_any A aa ac W hin.sA (hin.tA.below hb (fun _ h => h) (fun _ h => Nat.lt_of_lt_of_le h hb.size))
  have hob := fun W (hb : Below w.heap.size w W) => optional_any B ba bc W hin.sB (hin.tB.below hb (fun _ h => h) (fun _ h => Nat.lt_of_lt_of_le h hb.size))
  have han := fun W (hb : Below w.heap.size w W) => annotation_any A aa ac W hin.sA (hin.tA.below hb (fun _ h => h) (fun _ h => Nat.lt_of_lt_of_le h hb.size))
  have htr := fun w => truth_any n w
  obtain ⟨bE, hbE, he⟩ : ∃ b, b = _ ∧ ∀ w, Calls Tryz.prog 92 _ w fun e w' => e = .returned (.bool b) ∧ Below w.heap.size w w' := ⟨_, rfl, fun w => empty_any k f t nm ar 0 s op A aa ac B ba bc pl pa pc kl ka kc w⟩
  unfold tv at hoa hob han
  unfold xv Ex.nodeR Ex.arity
  subst hk
  obtain ⟨nA, hnA⟩ : ∃ b, Tp.none A = b := ⟨_, rfl⟩
  obtain ⟨nB, hnB⟩ : ∃ b, Tp.none B = b := ⟨_, rfl⟩
  obtain ⟨oA, hoA⟩ : ∃ b, Tp.opt A = b := ⟨_, rfl⟩
  obtain ⟨oB, hoB⟩ : ∃ b, Tp.opt B = b := ⟨_, rfl⟩
  obtain ⟨rA, hrA⟩ : ∃ b, Tp.ann A = b := ⟨_, rfl⟩
  obtain ⟨bn, hbn⟩ : ∃ b, Wd.name nm = b := ⟨_, rfl⟩
  obtain ⟨br, hbr⟩ : ∃ b, Wd.name ar = b := ⟨_, rfl⟩
  simp only [hnA, hnB, hoA, hoB, hrA, hbn, hbr] at hbE he hnn hna hoa hob han ⊢
  obtain ⟨a0, ha0⟩ : ∃ k, A.kind = k := ⟨_, rfl⟩
  obtain ⟨a1, ha1⟩ : ∃ k, A.num = k := ⟨_, rfl⟩
  obtain ⟨a2, ha2⟩ : ∃ k, A.kids.length = k := ⟨_, rfl⟩
  obtain ⟨b0, hb0⟩ : ∃ k, B.kind = k := ⟨_, rfl⟩
  obtain ⟨b1, hb1⟩ : ∃ k, B.num = k := ⟨_, rfl⟩
  obtain ⟨b2, hb2⟩ : ∃ k, B.kids.length = k := ⟨_, rfl⟩
  simp only [ha0, ha1, ha2, hb0, hb1, hb2] at he hoa hob han ⊢
  have HAL := Lib.hid hal; have HNN := Lib.hid hnn; have HNA := Lib.hid hna; have HOA := Lib.hid hoa; have HOB := Lib.hid hob; have HAN := Lib.hid han; have HTR := Lib.hid htr; have HE := Lib.hid he; have HBQ := Lib.hid hbE
  clear hal hnn hna hoa hob han htr he hbE hnA hnB hoA hoB hrA hbn hbr ha0 ha1 ha2 hb0 hb1 hb2 hin
  go_enter Tryz.func55, Tryz.ntmps55
  go_upto_region 38 with fail
  by_cases hm : (kl : Int) = 0
  case neg =>
    have gm : ((kl : Int) == 0) = false := by simp; omega
    have gn : ¬ ((0 : Int) = (kl : Int)) := by omega
    clear hm
    go_wp2_with fail
    go_ret
    exact ⟨ret_boolP (by first | (simp; done) | (simp [gn]; done)), (HAL.out _)⟩
  obtain rfl : kl = 0 := by omega
  go_wp2_with (go_at_call 92; with_reducible refine (HE.out _).mono ?_; rintro e we ⟨rfl, hbe⟩; have HBE := Lib.hid hbe; clear hbe)
  go_ret
  exact ⟨ret_boolP (by rw [HBQ.out]; simp), (HAL.out _).trans (HBE.out.mono (by simp))⟩
set_option maxRecDepth 100000 in
set_option maxHeartbeats 16000000 in
theorem rightE_k1 (k f t : Int) (nm ar : List UInt8) (n : Int) (s : List UInt8) (op : Int) (A : T) (aa : Option Addr) (ac : Nat) (B : T) (ba : Option Addr) (bc : Nat) (pl : Nat) (pa : Option Addr) (pc : Nat) (kl : Nat) (ka : Option Addr) (kc : Nat) (ps : Bool) (w : World) (hin : XIn w nm ar A aa ac B ba bc) (hk : k = 1) :
    Calls Tryz.prog 55 #[xv k f t nm ar n s op A aa ac B ba bc pl pa pc kl ka kc] w fun r w' => r = .returned (.bool (Ex.nodeR k nm ar n s op A B pl ps kl)) ∧ Below w.heap.size w w' := by
  have hal := fun o : Obj => ((Below.refl w.heap.size w).alloc (Nat.le_refl _) o)
  have hnn : ∀ w, Calls Tryz.prog 88 #[.string ⟨nm.toArray⟩] w fun e w' => e = .returned (.bool (Wd.name nm)) ∧ w = w' := fun w => name_any ⟨nm.toArray⟩ (by show nm.toArray.size ≤ maxLen; rw [List.size_toArray]; have := hin.nm; unfold maxLen; omega) w
  have hna : ∀ w, Calls Tryz.prog 88 #[.string ⟨ar.toArray⟩] w fun e w' => e = .returned (.bool (Wd.name ar)) ∧ w = w' := fun w => name_any ⟨ar.toArray⟩ (by show ar.toArray.size ≤ maxLen; rw [List.size_toArray]; have := hin.ar; unfold maxLen; omega) w
  have hoa := fun W (hb : Below w.heap.size w W) => optional_any A aa ac W hin.sA (hin.tA.below hb (fun _ h => h) (fun _ h => Nat.lt_of_lt_of_le h hb.size))
  have hob := fun W (hb : Below w.heap.size w W) => optional_any B ba bc W hin.sB (hin.tB.below hb (fun _ h => h) (fun _ h => Nat.lt_of_lt_of_le h hb.size))
  have han := fun W (hb : Below w.heap.size w W) => annotation_any A aa ac W hin.sA (hin.tA.below hb (fun _ h => h) (fun _ h => Nat.lt_of_lt_of_le h hb.size))
  have htr := fun w => truth_any n w
  obtain ⟨bE, hbE, he⟩ : ∃ b, b = _ ∧ ∀ w, Calls Tryz.prog 92 _ w fun e w' => e = .returned (.bool b) ∧ Below w.heap.size w w' := ⟨_, rfl, fun w => empty_any k f t [] ar n s op A aa ac B ba bc pl pa pc kl ka kc w⟩
  unfold tv at hoa hob han
  unfold xv Ex.nodeR Ex.arity
  subst hk
  obtain ⟨nA, hnA⟩ : ∃ b, Tp.none A = b := ⟨_, rfl⟩
  obtain ⟨nB, hnB⟩ : ∃ b, Tp.none B = b := ⟨_, rfl⟩
  obtain ⟨oA, hoA⟩ : ∃ b, Tp.opt A = b := ⟨_, rfl⟩
  obtain ⟨oB, hoB⟩ : ∃ b, Tp.opt B = b := ⟨_, rfl⟩
  obtain ⟨rA, hrA⟩ : ∃ b, Tp.ann A = b := ⟨_, rfl⟩
  obtain ⟨bn, hbn⟩ : ∃ b, Wd.name nm = b := ⟨_, rfl⟩
  obtain ⟨br, hbr⟩ : ∃ b, Wd.name ar = b := ⟨_, rfl⟩
  simp only [hnA, hnB, hoA, hoB, hrA, hbn, hbr] at hbE he hnn hna hoa hob han ⊢
  obtain ⟨a0, ha0⟩ : ∃ k, A.kind = k := ⟨_, rfl⟩
  obtain ⟨a1, ha1⟩ : ∃ k, A.num = k := ⟨_, rfl⟩
  obtain ⟨a2, ha2⟩ : ∃ k, A.kids.length = k := ⟨_, rfl⟩
  obtain ⟨b0, hb0⟩ : ∃ k, B.kind = k := ⟨_, rfl⟩
  obtain ⟨b1, hb1⟩ : ∃ k, B.num = k := ⟨_, rfl⟩
  obtain ⟨b2, hb2⟩ : ∃ k, B.kids.length = k := ⟨_, rfl⟩
  simp only [ha0, ha1, ha2, hb0, hb1, hb2] at he hoa hob han ⊢
  have HAL := Lib.hid hal; have HNN := Lib.hid hnn; have HNA := Lib.hid hna; have HOA := Lib.hid hoa; have HOB := Lib.hid hob; have HAN := Lib.hid han; have HTR := Lib.hid htr; have HE := Lib.hid he; have HBQ := Lib.hid hbE
  clear hal hnn hna hoa hob han htr he hbE hnA hnB hoA hoB hrA hbn hbr ha0 ha1 ha2 hb0 hb1 hb2 hin
  go_enter Tryz.func55, Tryz.ntmps55
  go_upto_region 38 with (go_at_call 88; with_reducible refine (HNN.out _).mono ?_; rintro e w0 ⟨rfl, rfl⟩)
  cases bn with
  | false =>
    go_wp2_with fail
    go_ret
    exact ⟨ret_boolP (by simp), (HAL.out _)⟩
  | true =>
    by_cases hm : (kl : Int) = 0
    case neg =>
      have gm : ((kl : Int) == 0) = false := by simp; omega
      have gn : ¬ ((0 : Int) = (kl : Int)) := by omega
      clear hm
      go_wp2_with fail
      go_ret
      exact ⟨ret_boolP (by first | (simp; done) | (simp [gn]; done)), (HAL.out _)⟩
    obtain rfl : kl = 0 := by omega
    go_wp2_with (go_at_call 92; with_reducible refine (HE.out _).mono ?_; rintro e we ⟨rfl, hbe⟩; have HBE := Lib.hid hbe; clear hbe)
    go_ret
    exact ⟨ret_boolP (by rw [HBQ.out]; simp), (HAL.out _).trans (HBE.out.mono (by simp))⟩
set_option maxRecDepth 100000 in
set_option maxHeartbeats 16000000 in
theorem rightE_k3 (k f t : Int) (nm ar : List UInt8) (n : Int) (s : List UInt8) (op : Int) (A : T) (aa : Option Addr) (ac : Nat) (B : T) (ba : Option Addr) (bc : Nat) (pl : Nat) (pa : Option Addr) (pc : Nat) (kl : Nat) (ka : Option Addr) (kc : Nat) (ps : Bool) (w : World) (hin : XIn w nm ar A aa ac B ba bc) (hk : k = 3) :
    Calls Tryz.prog 55 #[xv k f t nm ar n s op A aa ac B ba bc pl pa pc kl ka kc] w fun r w' => r = .returned (.bool (Ex.nodeR k nm ar n s op A B pl ps kl)) ∧ Below w.heap.size w w' := by
  have hal := fun o : Obj => ((Below.refl w.heap.size w).alloc (Nat.le_refl _) o)
  have hnn : ∀ w, Calls Tryz.prog 88 #[.string ⟨nm.toArray⟩] w fun e w' => e = .returned (.bool (Wd.name nm)) ∧ w = w' := fun w => name_any ⟨nm.toArray⟩ (by show nm.toArray.size ≤ maxLen; rw [List.size_toArray]; have := hin.nm; unfold maxLen; omega) w
  have hna : ∀ w, Calls Tryz.prog 88 #[.string ⟨ar.toArray⟩] w fun e w' => e = .returned (.bool (Wd.name ar)) ∧ w = w' := fun w => name_any ⟨ar.toArray⟩ (by show ar.toArray.size ≤ maxLen; rw [List.size_toArray]; have := hin.ar; unfold maxLen; omega) w
  have hoa := fun W (hb : Below w.heap.size w W) => optional_any A aa ac W hin.sA (hin.tA.below hb (fun _ h => h) (fun _ h => Nat.lt_of_lt_of_le h hb.size))
  have hob := fun W (hb : Below w.heap.size w W) => optional_any B ba bc W hin.sB (hin.tB.below hb (fun _ h => h) (fun _ h => Nat.lt_of_lt_of_le h hb.size))
  have han := fun W (hb : Below w.heap.size w W) => annotation_any A aa ac W hin.sA (hin.tA.below hb (fun _ h => h) (fun _ h => Nat.lt_of_lt_of_le h hb.size))
  have htr := fun w => truth_any n w
  obtain ⟨bE, hbE, he⟩ : ∃ b, b = _ ∧ ∀ w, Calls Tryz.prog 92 _ w fun e w' => e = .returned (.bool b) ∧ Below w.heap.size w w' := ⟨_, rfl, fun w => empty_any k f t nm ar 0 s op A aa ac B ba bc pl pa pc kl ka kc w⟩
  unfold tv at hoa hob han
  unfold xv Ex.nodeR Ex.arity
  subst hk
  obtain ⟨nA, hnA⟩ : ∃ b, Tp.none A = b := ⟨_, rfl⟩
  obtain ⟨nB, hnB⟩ : ∃ b, Tp.none B = b := ⟨_, rfl⟩
  obtain ⟨oA, hoA⟩ : ∃ b, Tp.opt A = b := ⟨_, rfl⟩
  obtain ⟨oB, hoB⟩ : ∃ b, Tp.opt B = b := ⟨_, rfl⟩
  obtain ⟨rA, hrA⟩ : ∃ b, Tp.ann A = b := ⟨_, rfl⟩
  obtain ⟨bn, hbn⟩ : ∃ b, Wd.name nm = b := ⟨_, rfl⟩
  obtain ⟨br, hbr⟩ : ∃ b, Wd.name ar = b := ⟨_, rfl⟩
  simp only [hnA, hnB, hoA, hoB, hrA, hbn, hbr] at hbE he hnn hna hoa hob han ⊢
  obtain ⟨a0, ha0⟩ : ∃ k, A.kind = k := ⟨_, rfl⟩
  obtain ⟨a1, ha1⟩ : ∃ k, A.num = k := ⟨_, rfl⟩
  obtain ⟨a2, ha2⟩ : ∃ k, A.kids.length = k := ⟨_, rfl⟩
  obtain ⟨b0, hb0⟩ : ∃ k, B.kind = k := ⟨_, rfl⟩
  obtain ⟨b1, hb1⟩ : ∃ k, B.num = k := ⟨_, rfl⟩
  obtain ⟨b2, hb2⟩ : ∃ k, B.kids.length = k := ⟨_, rfl⟩
  simp only [ha0, ha1, ha2, hb0, hb1, hb2] at he hoa hob han ⊢
  have HAL := Lib.hid hal; have HNN := Lib.hid hnn; have HNA := Lib.hid hna; have HOA := Lib.hid hoa; have HOB := Lib.hid hob; have HAN := Lib.hid han; have HTR := Lib.hid htr; have HE := Lib.hid he; have HBQ := Lib.hid hbE
  clear hal hnn hna hoa hob han htr he hbE hnA hnB hoA hoB hrA hbn hbr ha0 ha1 ha2 hb0 hb1 hb2 hin
  obtain ⟨bt, hbt⟩ : ∃ b, decide (0 ≤ n ∧ n ≤ 1) = b := ⟨_, rfl⟩
  rw [hbt] at HTR
  simp only [hbt]
  clear hbt
  go_enter Tryz.func55, Tryz.ntmps55
  go_upto_region 38 with (go_at_call 89; with_reducible refine (HTR.out _).mono ?_; rintro e w0 ⟨rfl, rfl⟩)
  cases bt with
  | false =>
    go_wp2_with fail
    go_ret
    exact ⟨ret_boolP (by simp), (HAL.out _)⟩
  | true =>
    by_cases hm : (kl : Int) = 0
    case neg =>
      have gm : ((kl : Int) == 0) = false := by simp; omega
      have gn : ¬ ((0 : Int) = (kl : Int)) := by omega
      clear hm
      go_wp2_with fail
      go_ret
      exact ⟨ret_boolP (by first | (simp; done) | (simp [gn]; done)), (HAL.out _)⟩
    obtain rfl : kl = 0 := by omega
    go_wp2_with (go_at_call 92; with_reducible refine (HE.out _).mono ?_; rintro e we ⟨rfl, hbe⟩; have HBE := Lib.hid hbe; clear hbe)
    go_ret
    exact ⟨ret_boolP (by rw [HBQ.out]; simp), (HAL.out _).trans (HBE.out.mono (by simp))⟩
set_option maxRecDepth 100000 in
set_option maxHeartbeats 16000000 in
theorem rightE_k4 (k f t : Int) (nm ar : List UInt8) (n : Int) (s : List UInt8) (op : Int) (A : T) (aa : Option Addr) (ac : Nat) (B : T) (ba : Option Addr) (bc : Nat) (pl : Nat) (pa : Option Addr) (pc : Nat) (kl : Nat) (ka : Option Addr) (kc : Nat) (ps : Bool) (w : World) (hin : XIn w nm ar A aa ac B ba bc) (hk : k = 4) :
    Calls Tryz.prog 55 #[xv k f t nm ar n s op A aa ac B ba bc pl pa pc kl ka kc] w fun r w' => r = .returned (.bool (Ex.nodeR k nm ar n s op A B pl ps kl)) ∧ Below w.heap.size w w' := by
  have hal := fun o : Obj => ((Below.refl w.heap.size w).alloc (Nat.le_refl _) o)
  have hnn : ∀ w, Calls Tryz.prog 88 #[.string ⟨nm.toArray⟩] w fun e w' => e = .returned (.bool (Wd.name nm)) ∧ w = w' := fun w => name_any ⟨nm.toArray⟩ (by show nm.toArray.size ≤ maxLen; rw [List.size_toArray]; have := hin.nm; unfold maxLen; omega) w
  have hna : ∀ w, Calls Tryz.prog 88 #[.string ⟨ar.toArray⟩] w fun e w' => e = .returned (.bool (Wd.name ar)) ∧ w = w' := fun w => name_any ⟨ar.toArray⟩ (by show ar.toArray.size ≤ maxLen; rw [List.size_toArray]; have := hin.ar; unfold maxLen; omega) w
  have hoa := fun W (hb : Below w.heap.size w W) => optional_any A aa ac W hin.sA (hin.tA.below hb (fun _ h => h) (fun _ h => Nat.lt_of_lt_of_le h hb.size))
  have hob := fun W (hb : Below w.heap.size w W) => optional_any B ba bc W hin.sB (hin.tB.below hb (fun _ h => h) (fun _ h => Nat.lt_of_lt_of_le h hb.size))
  have han := fun W (hb : Below w.heap.size w W) => annotation_any A aa ac W hin.sA (hin.tA.below hb (fun _ h => h) (fun _ h => Nat.lt_of_lt_of_le h hb.size))
  have htr := fun w => truth_any n w
  obtain ⟨bE, hbE, he⟩ : ∃ b, b = _ ∧ ∀ w, Calls Tryz.prog 92 _ w fun e w' => e = .returned (.bool b) ∧ Below w.heap.size w w' := ⟨_, rfl, fun w => empty_any k f t nm ar n [] op A aa ac B ba bc pl pa pc kl ka kc w⟩
  unfold tv at hoa hob han
  unfold xv Ex.nodeR Ex.arity
  subst hk
  obtain ⟨nA, hnA⟩ : ∃ b, Tp.none A = b := ⟨_, rfl⟩
  obtain ⟨nB, hnB⟩ : ∃ b, Tp.none B = b := ⟨_, rfl⟩
  obtain ⟨oA, hoA⟩ : ∃ b, Tp.opt A = b := ⟨_, rfl⟩
  obtain ⟨oB, hoB⟩ : ∃ b, Tp.opt B = b := ⟨_, rfl⟩
  obtain ⟨rA, hrA⟩ : ∃ b, Tp.ann A = b := ⟨_, rfl⟩
  obtain ⟨bn, hbn⟩ : ∃ b, Wd.name nm = b := ⟨_, rfl⟩
  obtain ⟨br, hbr⟩ : ∃ b, Wd.name ar = b := ⟨_, rfl⟩
  simp only [hnA, hnB, hoA, hoB, hrA, hbn, hbr] at hbE he hnn hna hoa hob han ⊢
  obtain ⟨a0, ha0⟩ : ∃ k, A.kind = k := ⟨_, rfl⟩
  obtain ⟨a1, ha1⟩ : ∃ k, A.num = k := ⟨_, rfl⟩
  obtain ⟨a2, ha2⟩ : ∃ k, A.kids.length = k := ⟨_, rfl⟩
  obtain ⟨b0, hb0⟩ : ∃ k, B.kind = k := ⟨_, rfl⟩
  obtain ⟨b1, hb1⟩ : ∃ k, B.num = k := ⟨_, rfl⟩
  obtain ⟨b2, hb2⟩ : ∃ k, B.kids.length = k := ⟨_, rfl⟩
  simp only [ha0, ha1, ha2, hb0, hb1, hb2] at he hoa hob han ⊢
  have HAL := Lib.hid hal; have HNN := Lib.hid hnn; have HNA := Lib.hid hna; have HOA := Lib.hid hoa; have HOB := Lib.hid hob; have HAN := Lib.hid han; have HTR := Lib.hid htr; have HE := Lib.hid he; have HBQ := Lib.hid hbE
  clear hal hnn hna hoa hob han htr he hbE hnA hnB hoA hoB hrA hbn hbr ha0 ha1 ha2 hb0 hb1 hb2 hin
  by_cases hs : (s.length : Int) ≤ 200
  case neg =>
    have hs' : ¬ s.length ≤ 200 := by omega
    go_enter Tryz.func55, Tryz.ntmps55
    go_upto_region 38 with fail
    go_wp2_with fail
    go_ret
    exact ⟨ret_boolP (by first | (simp; done) | (simp [hs']; done)), HAL.out _⟩
  have hs' : s.length ≤ 200 := by omega
  go_enter Tryz.func55, Tryz.ntmps55
  go_upto_region 38 with fail
  by_cases hm : (kl : Int) = 0
  case neg =>
    have gm : ((kl : Int) == 0) = false := by simp; omega
    have gn : ¬ ((0 : Int) = (kl : Int)) := by omega
    clear hm
    go_wp2_with fail
    go_ret
    exact ⟨ret_boolP (by first | (simp; done) | (simp [gn]; done)), (HAL.out _)⟩
  obtain rfl : kl = 0 := by omega
  go_wp2_with (go_at_call 92; with_reducible refine (HE.out _).mono ?_; rintro e we ⟨rfl, hbe⟩; have HBE := Lib.hid hbe; clear hbe)
  go_ret
  exact ⟨ret_boolP (by rw [HBQ.out]; first | (simp; done) | (simp [hs']; done)), (HAL.out _).trans (HBE.out.mono (by simp))⟩
end Go.Proofs.YtmmhpibkjdlkgaaGreat

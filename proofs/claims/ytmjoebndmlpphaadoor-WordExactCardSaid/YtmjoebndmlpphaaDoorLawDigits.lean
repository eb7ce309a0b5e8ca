/- The walk of the law on digits. -/
import Derived.Test.YtmjoebndmlpphaaDoorLawNames
import Derived.Test.YtmjoebndmlpphaaDoorPureC
import Derived.Test.YtmjoebndmlpphaaDoorBytes
import Derived.Deep.QuietTactic
import Derived.BigQuiet
namespace Go.Proofs.YtmjoebndmlpphaaDoor
open Go Go.RowKit
open Go.Proofs

theorem dig_slice (d : Nat) (h : d < 10) : ∀ w : World, (Instr.slice 9 (.string { data := #[48, 49, 50, 51, 52, 53, 54, 55, 56, 57] }) (some (.int .u8 (d : Int))) (some (.int .u8 ((d : Int) + 1))) none).run Tryd.prog w = .ok (.string { data := #[UInt8.ofNat (48 + d)] }) w :=
  match d, h with
  | 0, _ => fun _ => by kernel_rfl
  | 1, _ => fun _ => by kernel_rfl
  | 2, _ => fun _ => by kernel_rfl
  | 3, _ => fun _ => by kernel_rfl
  | 4, _ => fun _ => by kernel_rfl
  | 5, _ => fun _ => by kernel_rfl
  | 6, _ => fun _ => by kernel_rfl
  | 7, _ => fun _ => by kernel_rfl
  | 8, _ => fun _ => by kernel_rfl
  | 9, _ => fun _ => by kernel_rfl
  | _ + 10, h => absurd h (by omega)

theorem ba_ext2 {a b : ByteArray} (h : a.data.toList = b.data.toList) : a = b := by
  cases a; cases b; congr 1; exact Array.toList_inj.1 h
/-- Whether they are a number's text, as the law reckons it. -/
def mayI (n : Nat) (z0 : Int) (ng : Bool) (B : Int) : Bool := decide ((n : Int) < 20) && (z0 % 10 != 0 || ((n : Int) == 1 && !ng)) && (decide (B ≤ 9223372036854775807) || (ng && B == 9223372036854775808))

set_option maxRecDepth 100000 in
set_option maxHeartbeats 1000000 in
theorem digits_pos (bs : List UInt8) (ds : List Nat) (hds : ds = bs.map fun c => c.toNat % 10) (b off cap : Nat) (hn1 : 1 ≤ bs.length) (hn2 : bs.length ≤ 30) (w : World)
    (hc : ∀ i (h : i < bs.length), w.cell? ⟨b, off + i, none⟩ = some (.int .u8 (bs[i].toNat : Int))) (hg : Good w)
    (z0 : Int) (hz0 : w.cell? ⟨b, off, none⟩ = some (.int .u8 z0)) (hz1 : 0 ≤ z0) (hz2 : z0 < 256)
    (m : Bool) (hm : m = mayI bs.length z0 false (Wd.val (ds.take (min bs.length 19)) : Int)) (M : Int)
    (hcase : (m = false ∧ ∀ w, Good w → Calls Tryd.prog 9 #[.string ⟨(Wd.pre false ++ Wd.digs ds).toArray⟩] w fun e w' => e = .returned (.tuple #[.int .i64 0, .int .i64 3]) ∧ Below w.heap.size w w') ∨
      (m = true ∧ (∀ w, Good w → Calls Tryd.prog 9 #[.string ⟨(Wd.pre false ++ Wd.digs ds).toArray⟩] w fun e w' => e = .returned (.tuple #[.int .i64 M, .int .i64 0]) ∧ Below w.heap.size w w') ∧
        (∀ w, Good w → Calls Tryd.prog 19 #[.int .i64 M] w fun e w' => e = .returned (.string ⟨(Wd.pre false ++ Wd.digs ds).toArray⟩) ∧ Below w.heap.size w w') ∧
        (0 ≤ M ∧ M ≤ 9223372036854775807 ∧ M = (Wd.val (ds.take (min bs.length 19)) : Int)))) :
    Calls Tryd.prog 8 #[.slice (some ⟨b, off, none⟩) bs.length cap, .bool false] w fun e w' => e = .returned (.bool true) ∧ Below w.heap.size w w' := by
  have HG := Lib.hid hg; have HC := Lib.hid hc; have HD := Lib.hid hds; have HM := Lib.hid hm; have HCASE := Lib.hid hcase; have HZ := Lib.hid hz0
  have hne : ((bs.length : Int) == 0) = false := by rw [beq_eq_false_iff_ne]; omega
  clear hg hc hds hm hcase hz0
  go_enter Tryd.func8, Tryd.ntmps8
  go_wp2_with fail
  go_loopw [5, 6, 7] (fun s B i wr => ∃ k : Nat, k ≤ bs.length ∧ i = .int .i64 k ∧ (∃ tk : List UInt8, s = .string ⟨tk.toArray⟩ ∧ tk.length ≤ 1 + k ∧ tk = Wd.pre false ++ Wd.digs (ds.take k)) ∧ (∃ Bi : Int, B = .int .u64 Bi ∧ Bi = (Wd.val (ds.take (min k 19)) : Int)) ∧ ∃ nq, wr = w.drewN nq) (fun _ _ i _ => bs.length - (intOf i).toNat)
  case atStart => exact ⟨0, Nat.zero_le _, rfl, ⟨[], rfl, by simp, (rfl : _ = Wd.pre false ++ _)⟩, ⟨0, rfl, rfl⟩, 0, rfl⟩
  case round =>
    obtain ⟨k, hk, rfl, ⟨tk, rfl, htl, htk⟩, ⟨Bi, rfl, hBi⟩, nq, rfl⟩ := hrel
    have HT := Lib.hid htk; clear htk
    by_cases hlt : k < bs.length
    · have hB0 : 0 ≤ Bi := by rw [hBi]; omega
      have hcell := HC.out k hlt
      have hlt2 : (k : Int) < (bs.length : Int) := by omega
      have hv0 : (0 : Int) ≤ ((bs[k]).toNat : Int) := by omega
      have hv1 : ((bs[k]).toNat : Int) < 256 := by have := (bs[k]).toNat_lt; omega
      have hdk : ds[k]? = some ((bs[k]).toNat % 10) := by rw [HD.out]; simp [List.getElem?_eq_getElem hlt]
      have hsl := dig_slice ((bs[k]).toNat % 10) (by omega)
      have hvd : ((bs[k]).toNat : Int) % 10 = ((bs[k]).toNat % 10 : Nat) := by omega
      rw [← hvd] at hsl
      have hnext : ds.take (k + 1) = ds.take k ++ [(bs[k]).toNat % 10] := by rw [List.take_add_one, hdk]; rfl
      have hdl : ∀ d ∈ ds.take k, d < 10 := by
        intro d hd
        have := List.mem_of_mem_take hd
        rw [HD.out] at this
        obtain ⟨c, _, rfl⟩ := List.mem_map.1 this
        omega
      have hlen : (ds.take k).length ≤ k := List.length_take_le _ _
      have HVD := Lib.hid hvd; have HN := Lib.hid hnext; have HDL := Lib.hid hdl; clear hdk hvd hnext hdl
      generalize hdd : (bs[k]).toNat % 10 = d at *
      clear hdd
      generalize hvv : ((bs[k]).toNat : Int) = v at *
      clear hvv
      by_cases h19 : k < 19
      · have hB1 : Bi < 1000000000000000000 := by
          rw [hBi, show min k 19 = k from by omega]
          have h1 := Wd.val_lt (ds.take k) HDL.out
          have h2 : 10 ^ (ds.take k).length ≤ 10 ^ 18 := Nat.pow_le_pow_right (by decide) (by omega)
          have h3 : (10 : Nat) ^ 18 = 1000000000000000000 := by decide
          omega
        have HB := Lib.hid hBi; clear hBi
        go_wp2_with fail
        go_quiet (fail)
        go_wp2_with fail
        go_roundw
        case rel =>
          refine ⟨k + 1, by omega, by go_num, ⟨tk ++ [UInt8.ofNat (48 + d)], ?_, by simp; omega, by rw [HN.out, Wd.digs_snoc, ← List.append_assoc, ← HT.out]⟩, ⟨_, rfl, ?_⟩, _, rfl⟩
          · congr 1; apply ba_ext2; simp
          · rw [show min (k + 1) 19 = k + 1 from by omega, HN.out, Wd.val_snoc, HVD.out, HB.out, show min k 19 = k from by omega]; omega
        case measure => simp [intOf]; omega
      · have HB := Lib.hid hBi; clear hBi
        go_wp2_with fail
        go_quiet (fail)
        go_wp2_with fail
        go_roundw
        case rel =>
          refine ⟨k + 1, by omega, by go_num, ⟨tk ++ [UInt8.ofNat (48 + d)], ?_, by simp; omega, by rw [HN.out, Wd.digs_snoc, ← List.append_assoc, ← HT.out]⟩, ⟨_, rfl, ?_⟩, _, rfl⟩
          · congr 1; apply ba_ext2; simp
          · rw [HB.out, show min (k + 1) 19 = 19 from by omega, show min k 19 = 19 from by omega]
        case measure => simp [intOf]; omega
    · obtain rfl : k = bs.length := by omega
      have hdsl : ds.length = bs.length := by rw [HD.out]; simp
      have htk := HT.out
      rw [List.take_of_length_le (by omega)] at htk
      have hM := HM.out
      rw [← hBi] at hM
      have hcs := HCASE.out
      rw [← htk, ← hBi] at hcs
      have HM2 := Lib.hid hM; have HCS := Lib.hid hcs
      have hzc := HZ.out
      clear hM hcs HM HCASE HT htk hBi hdsl HZ HD HC
      go_upto_region 13 with fail
      go_cut [8] (fun v wx => v = .bool m ∧ ∃ q, wx = w.drewN q)
      case first =>
        cases h1 : ((bs.length : Int) == 1) <;> cases h2 : (z0 % 10 != 0) <;> go_wp2_with fail
        all_goals
          go_meet
          refine ⟨?_, _, rfl⟩
          rw [HM2.out]
          congr 1
          rw [Bool.eq_iff_iff]; simp [mayI, *] <;> omega
      case rest =>
        obtain ⟨rfl, q, rfl⟩ := hcut
        have HGq : Hid (Good (w.drewN q)) := Lib.hid (HG.out.below (below_drewN _ w q))
        have hbq := below_drewN w.heap.size w q
        clear hzc HM2
        rcases HCS.out with ⟨rfl, P⟩ | ⟨rfl, P, N, hng⟩
        · have HP := Lib.hid P; clear P HCS
          go_wp2_with fail
          refine (HP.out _ HGq.out).mono ?_
          rintro e w2 ⟨rfl, hb2⟩
          have hb := hbq.trans hb2
          have HG2 := Lib.hid (HG.out.below hb)
          clear hbq hb2
          go_wp2_with (go_at_call 21; refine (wakes_any _ HG2.out).mono ?_; rintro e w4 ⟨rfl, hb4⟩)
          go_ret
          exact ⟨rfl, hb.trans (hb4.mono hb.size)⟩
        · have HP := Lib.hid P; have HNN := Lib.hid N
          clear P N HCS
          obtain ⟨hM0, hM1, rfl⟩ := hng
          go_wp2_with fail
          refine (HP.out _ HGq.out).mono ?_
          rintro e w2 ⟨rfl, hb2⟩
          have hb := hbq.trans hb2
          have HG2 := Lib.hid (HG.out.below hb)
          clear hbq hb2
          go_wp2_with fail
          refine (HNN.out _ HG2.out).mono ?_
          rintro e w3 ⟨rfl, hb3⟩
          have hb' := hb.trans (hb3.mono hb.size)
          have HG3 := Lib.hid (HG.out.below hb')
          clear hb hb3 HG2
          go_wp2_with (go_at_call 21; refine (wakes_any _ HG3.out).mono ?_; rintro e w4 ⟨rfl, hb4⟩)
          go_ret
          exact ⟨ret_bool (by simp; omega), hb'.trans (hb4.mono hb'.size)⟩

set_option maxRecDepth 100000 in
set_option maxHeartbeats 1000000 in
theorem digits_neg (bs : List UInt8) (ds : List Nat) (hds : ds = bs.map fun c => c.toNat % 10) (b off cap : Nat) (hn1 : 1 ≤ bs.length) (hn2 : bs.length ≤ 30) (w : World)
    (hc : ∀ i (h : i < bs.length), w.cell? ⟨b, off + i, none⟩ = some (.int .u8 (bs[i].toNat : Int))) (hg : Good w)
    (z0 : Int) (hz0 : w.cell? ⟨b, off, none⟩ = some (.int .u8 z0)) (hz1 : 0 ≤ z0) (hz2 : z0 < 256)
    (m : Bool) (hm : m = mayI bs.length z0 true (Wd.val (ds.take (min bs.length 19)) : Int)) (M : Int)
    (hcase : (m = false ∧ ∀ w, Good w → Calls Tryd.prog 9 #[.string ⟨(Wd.pre true ++ Wd.digs ds).toArray⟩] w fun e w' => e = .returned (.tuple #[.int .i64 0, .int .i64 3]) ∧ Below w.heap.size w w') ∨
      (m = true ∧ (∀ w, Good w → Calls Tryd.prog 9 #[.string ⟨(Wd.pre true ++ Wd.digs ds).toArray⟩] w fun e w' => e = .returned (.tuple #[.int .i64 M, .int .i64 0]) ∧ Below w.heap.size w w') ∧
        (∀ w, Good w → Calls Tryd.prog 19 #[.int .i64 M] w fun e w' => e = .returned (.string ⟨(Wd.pre true ++ Wd.digs ds).toArray⟩) ∧ Below w.heap.size w w') ∧
        M < 0)) :
    Calls Tryd.prog 8 #[.slice (some ⟨b, off, none⟩) bs.length cap, .bool true] w fun e w' => e = .returned (.bool true) ∧ Below w.heap.size w w' := by
  have HG := Lib.hid hg; have HC := Lib.hid hc; have HD := Lib.hid hds; have HM := Lib.hid hm; have HCASE := Lib.hid hcase; have HZ := Lib.hid hz0
  have hne : ((bs.length : Int) == 0) = false := by rw [beq_eq_false_iff_ne]; omega
  clear hg hc hds hm hcase hz0
  go_enter Tryd.func8, Tryd.ntmps8
  go_wp2_with fail
  go_loopw [5, 6, 7] (fun s B i wr => ∃ k : Nat, k ≤ bs.length ∧ i = .int .i64 k ∧ (∃ tk : List UInt8, s = .string ⟨tk.toArray⟩ ∧ tk.length ≤ 1 + k ∧ tk = Wd.pre true ++ Wd.digs (ds.take k)) ∧ (∃ Bi : Int, B = .int .u64 Bi ∧ Bi = (Wd.val (ds.take (min k 19)) : Int)) ∧ ∃ nq, wr = w.drewN nq) (fun _ _ i _ => bs.length - (intOf i).toNat)
  case atStart => exact ⟨0, Nat.zero_le _, rfl, ⟨[126], rfl, by simp, (rfl : _ = Wd.pre true ++ _)⟩, ⟨0, rfl, rfl⟩, 0, rfl⟩
  case round =>
    obtain ⟨k, hk, rfl, ⟨tk, rfl, htl, htk⟩, ⟨Bi, rfl, hBi⟩, nq, rfl⟩ := hrel
    have HT := Lib.hid htk; clear htk
    by_cases hlt : k < bs.length
    · have hB0 : 0 ≤ Bi := by rw [hBi]; omega
      have hcell := HC.out k hlt
      have hlt2 : (k : Int) < (bs.length : Int) := by omega
      have hv0 : (0 : Int) ≤ ((bs[k]).toNat : Int) := by omega
      have hv1 : ((bs[k]).toNat : Int) < 256 := by have := (bs[k]).toNat_lt; omega
      have hdk : ds[k]? = some ((bs[k]).toNat % 10) := by rw [HD.out]; simp [List.getElem?_eq_getElem hlt]
      have hsl := dig_slice ((bs[k]).toNat % 10) (by omega)
      have hvd : ((bs[k]).toNat : Int) % 10 = ((bs[k]).toNat % 10 : Nat) := by omega
      rw [← hvd] at hsl
      have hnext : ds.take (k + 1) = ds.take k ++ [(bs[k]).toNat % 10] := by rw [List.take_add_one, hdk]; rfl
      have hdl : ∀ d ∈ ds.take k, d < 10 := by
        intro d hd
        have := List.mem_of_mem_take hd
        rw [HD.out] at this
        obtain ⟨c, _, rfl⟩ := List.mem_map.1 this
        omega
      have hlen : (ds.take k).length ≤ k := List.length_take_le _ _
      have HVD := Lib.hid hvd; have HN := Lib.hid hnext; have HDL := Lib.hid hdl; clear hdk hvd hnext hdl
      generalize hdd : (bs[k]).toNat % 10 = d at *
      clear hdd
      generalize hvv : ((bs[k]).toNat : Int) = v at *
      clear hvv
      by_cases h19 : k < 19
      · have hB1 : Bi < 1000000000000000000 := by
          rw [hBi, show min k 19 = k from by omega]
          have h1 := Wd.val_lt (ds.take k) HDL.out
          have h2 : 10 ^ (ds.take k).length ≤ 10 ^ 18 := Nat.pow_le_pow_right (by decide) (by omega)
          have h3 : (10 : Nat) ^ 18 = 1000000000000000000 := by decide
          omega
        have HB := Lib.hid hBi; clear hBi
        go_wp2_with fail
        go_quiet (fail)
        go_wp2_with fail
        go_roundw
        case rel =>
          refine ⟨k + 1, by omega, by go_num, ⟨tk ++ [UInt8.ofNat (48 + d)], ?_, by simp; omega, by rw [HN.out, Wd.digs_snoc, ← List.append_assoc, ← HT.out]⟩, ⟨_, rfl, ?_⟩, _, rfl⟩
          · congr 1; apply ba_ext2; simp
          · rw [show min (k + 1) 19 = k + 1 from by omega, HN.out, Wd.val_snoc, HVD.out, HB.out, show min k 19 = k from by omega]; omega
        case measure => simp [intOf]; omega
      · have HB := Lib.hid hBi; clear hBi
        go_wp2_with fail
        go_quiet (fail)
        go_wp2_with fail
        go_roundw
        case rel =>
          refine ⟨k + 1, by omega, by go_num, ⟨tk ++ [UInt8.ofNat (48 + d)], ?_, by simp; omega, by rw [HN.out, Wd.digs_snoc, ← List.append_assoc, ← HT.out]⟩, ⟨_, rfl, ?_⟩, _, rfl⟩
          · congr 1; apply ba_ext2; simp
          · rw [HB.out, show min (k + 1) 19 = 19 from by omega, show min k 19 = 19 from by omega]
        case measure => simp [intOf]; omega
    · obtain rfl : k = bs.length := by omega
      have hdsl : ds.length = bs.length := by rw [HD.out]; simp
      have htk := HT.out
      rw [List.take_of_length_le (by omega)] at htk
      have hM := HM.out
      rw [← hBi] at hM
      have hcs := HCASE.out
      rw [← htk] at hcs
      have HM2 := Lib.hid hM; have HCS := Lib.hid hcs
      have hzc := HZ.out
      clear hM hcs HM HCASE HT htk hBi hdsl HZ HD HC
      go_upto_region 13 with fail
      go_cut [8] (fun v wx => v = .bool m ∧ ∃ q, wx = w.drewN q)
      case first =>
        cases h1 : ((bs.length : Int) == 1) <;> cases h2 : (z0 % 10 != 0) <;> go_wp2_with fail
        all_goals
          go_meet
          refine ⟨?_, _, rfl⟩
          rw [HM2.out]
          congr 1
          rw [Bool.eq_iff_iff]; simp [mayI, *] <;> omega
      case rest =>
        obtain ⟨rfl, q, rfl⟩ := hcut
        have HGq : Hid (Good (w.drewN q)) := Lib.hid (HG.out.below (below_drewN _ w q))
        have hbq := below_drewN w.heap.size w q
        clear hzc HM2
        rcases HCS.out with ⟨rfl, P⟩ | ⟨rfl, P, N, hng⟩
        · have HP := Lib.hid P; clear P HCS
          go_wp2_with fail
          refine (HP.out _ HGq.out).mono ?_
          rintro e w2 ⟨rfl, hb2⟩
          have hb := hbq.trans hb2
          have HG2 := Lib.hid (HG.out.below hb)
          clear hbq hb2
          go_wp2_with (go_at_call 21; refine (wakes_any _ HG2.out).mono ?_; rintro e w4 ⟨rfl, hb4⟩)
          go_ret
          exact ⟨rfl, hb.trans (hb4.mono hb.size)⟩
        · have HP := Lib.hid P; have HNN := Lib.hid N
          clear P N HCS
          go_wp2_with fail
          refine (HP.out _ HGq.out).mono ?_
          rintro e w2 ⟨rfl, hb2⟩
          have hb := hbq.trans hb2
          have HG2 := Lib.hid (HG.out.below hb)
          clear hbq hb2
          go_wp2_with fail
          refine (HNN.out _ HG2.out).mono ?_
          rintro e w3 ⟨rfl, hb3⟩
          have hb' := hb.trans (hb3.mono hb.size)
          have HG3 := Lib.hid (HG.out.below hb')
          clear hb hb3 HG2
          go_wp2_with (go_at_call 21; refine (wakes_any _ HG3.out).mono ?_; rintro e w4 ⟨rfl, hb4⟩)
          go_ret
          exact ⟨rfl, hb'.trans (hb4.mono hb'.size)⟩

set_option maxRecDepth 100000 in
set_option maxHeartbeats 1000000 in
theorem digits_none (v : Value) (n cap : Nat) (a : Option Addr) (ng : Bool) (hv : v = .slice a n cap) (h : n = 0 ∨ 30 < n) (hm : n ≤ 9223372036854775807) (w : World) :
    Calls Tryd.prog 8 #[v, .bool ng] w fun e w' => e = .returned (.bool true) ∧ Below w.heap.size w w' := by
  subst hv
  rcases h with rfl | h
  · go_enter Tryd.func8, Tryd.ntmps8
    go_wp2_with fail
    go_ret
    exact ⟨rfl, Below.refl _ _⟩
  · have hne : ((n : Int) == 0) = false := by rw [beq_eq_false_iff_ne]; omega
    go_enter Tryd.func8, Tryd.ntmps8
    go_wp2_with fail
    go_ret
    exact ⟨rfl, Below.refl _ _⟩

theorem may_tie (bs : List UInt8) (ng : Bool) (h1 : 1 ≤ bs.length) (z0 : Int) (hz : z0 = ((bs[0]'(by omega)).toNat : Int)) :
    mayI bs.length z0 ng (Wd.val ((bs.map fun c => c.toNat % 10).take (min bs.length 19)) : Int) = Wd.mayB (bs.map fun c => c.toNat % 10) ng := by
  cases bs with
  | nil => simp at h1
  | cons c r =>
    simp only [List.getElem_cons_zero] at hz
    subst hz
    by_cases hl : (c :: r).length < 20
    · have e : (List.map (fun c : UInt8 => c.toNat % 10) (c :: r)).take (min (c :: r).length 19) = List.map (fun c : UInt8 => c.toNat % 10) (c :: r) := by
        rw [List.take_of_length_le]; rw [List.length_map]; omega
      rw [e]
      generalize hv : Wd.val (List.map (fun c : UInt8 => c.toNat % 10) (c :: r)) = v
      unfold mayI Wd.mayB
      rw [hv]
      simp only [List.map_cons, List.head?_cons]
      have a1 : decide (((c :: r).length : Int) < 20) = decide ((c :: r).length < 20) := by rw [decide_eq_decide]; omega
      have a2 : (((c.toNat : Int) % 10) != 0) = decide (some (c.toNat % 10) ≠ some 0) := by
        rw [Bool.eq_iff_iff, bne_iff_ne, decide_eq_true_eq]; simp; omega
      have a3 : (((c :: r).length : Int) == 1) = decide ((List.map (fun c : UInt8 => c.toNat % 10) r).length + 1 = 1) := by
        rw [Bool.eq_iff_iff, beq_iff_eq, decide_eq_true_eq, List.length_map, List.length_cons]; omega
      have a4 : decide ((v : Int) ≤ 9223372036854775807) = decide (v ≤ 9223372036854775807) := by rw [decide_eq_decide]; omega
      have a5 : ((v : Int) == 9223372036854775808) = decide (v = 9223372036854775808) := by
        rw [Bool.eq_iff_iff, beq_iff_eq, decide_eq_true_eq]; omega
      rw [a1, a2, a3, a4, a5]
      simp
    · unfold mayI Wd.mayB
      have a1 : decide (((c :: r).length : Int) < 20) = false := by rw [decide_eq_false_iff_not]; omega
      have a2 : decide ((List.map (fun c : UInt8 => c.toNat % 10) (c :: r)).length < 20) = false := by rw [decide_eq_false_iff_not, List.length_map]; omega
      rw [a1, a2]; simp

theorem digits_some (bs : List UInt8) (ng : Bool) (b off cap : Nat) (hn1 : 1 ≤ bs.length) (hn2 : bs.length ≤ 30) (w : World)
    (hc : ∀ i (h : i < bs.length), w.cell? ⟨b, off + i, none⟩ = some (.int .u8 (bs[i].toNat : Int))) (hg : Good w) :
    Calls Tryd.prog 8 #[.slice (some ⟨b, off, none⟩) bs.length cap, .bool ng] w fun e w' => e = .returned (.bool true) ∧ Below w.heap.size w w' := by
  obtain ⟨ds, hds⟩ : ∃ ds, ds = bs.map fun c => c.toNat % 10 := ⟨_, rfl⟩
  have hlen : ds.length = bs.length := by rw [hds]; simp
  have h0 : ds ≠ [] := by intro e; rw [e] at hlen; simp at hlen; omega
  have hd : ∀ d ∈ ds, d < 10 := by
    intro d h; rw [hds] at h
    obtain ⟨c, _, rfl⟩ := List.mem_map.1 h
    omega
  have hz := hc 0 (by omega)
  have hzb := (bs[0]'(by omega)).toNat_lt
  have htie := may_tie bs ng hn1 _ rfl
  rw [← hds] at htie
  have el : ∀ r : List UInt8, ({ data := r.toArray } : ByteArray).data.toList = r := fun r => by simp
  have hts : (Wd.pre ng ++ Wd.digs ds).length ≤ 31 := by cases ng <;> simp [Wd.pre, Wd.digs] <;> omega
  have hno : Wd.mayB ds ng = false → ∀ w, Good w → Calls Tryd.prog 9 #[.string ⟨(Wd.pre ng ++ Wd.digs ds).toArray⟩] w fun e w' => e = .returned (.tuple #[.int .i64 0, .int .i64 3]) ∧ Below w.heap.size w w' := fun h w hg =>
    parse_no _ (by rw [Lib.size_eq, el]; omega) (by rw [el]; exact fun n hn => Wd.may_no ds ng hd h n hn) w hg
  cases ng with
  | false =>
    refine digits_pos bs ds hds b off cap hn1 hn2 w hc hg _ hz (by omega) (by omega) (Wd.mayB ds false) htie.symm (Wd.val ds : Int) ?_
    cases hmay : Wd.mayB ds false with
    | false => exact Or.inl ⟨rfl, hno hmay⟩
    | true =>
      obtain ⟨hin, hnum, _⟩ := Wd.may_yes ds false h0 hd hmay
      simp only [Bool.false_eq_true, if_false] at hin hnum
      have hl20 : ds.length < 20 := by
        simp only [Wd.mayB, Bool.and_eq_true, decide_eq_true_eq] at hmay; exact hmay.1.1
      refine Or.inr ⟨rfl, ?_, ?_, by omega, hin.2, by rw [List.take_of_length_le (by omega)]⟩
      · intro w hg; have := parse_yes _ hin w hg; rw [hnum] at this; exact this
      · intro w hg; have := num_any _ hin w hg; rw [hnum] at this; exact this
  | true =>
    refine digits_neg bs ds hds b off cap hn1 hn2 w hc hg _ hz (by omega) (by omega) (Wd.mayB ds true) htie.symm (-(Wd.val ds : Int)) ?_
    cases hmay : Wd.mayB ds true with
    | false => exact Or.inl ⟨rfl, hno hmay⟩
    | true =>
      obtain ⟨hin, hnum, hpos⟩ := Wd.may_yes ds true h0 hd hmay
      have hp := hpos rfl
      simp only [if_true] at hin hnum
      refine Or.inr ⟨rfl, ?_, ?_, by omega⟩
      · intro w hg; have := parse_yes _ hin w hg; rw [hnum] at this; exact this
      · intro w hg; have := num_any _ hin w hg; rw [hnum] at this; exact this

theorem walk_wordDigits (a : Option Addr) (n cap : Nat) {w : World} (hB : BytesAt w a n cap) (ng : Bool) (hg : Good w) :
    Calls Tryd.prog 8 #[.slice a n cap, .bool ng] w fun e w' => e = .returned (.bool true) ∧ Below w.heap.size w w' := by
  obtain ⟨hm, bs, rfl, hc⟩ := hB
  by_cases h : bs.length = 0 ∨ 30 < bs.length
  · exact digits_none _ _ cap a ng rfl h hm w
  · obtain ⟨b, off, rfl, hcell⟩ := hc (by omega)
    exact digits_some bs ng b off cap (by omega) (by omega) w hcell hg
end Go.Proofs.YtmjoebndmlpphaaDoor

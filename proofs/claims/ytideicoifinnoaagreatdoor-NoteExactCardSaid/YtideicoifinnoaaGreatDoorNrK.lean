/- note.Read: its walk. -/
import Derived.Test.YtideicoifinnoaaGreatDoorNrI
import Derived.Test.YtideicoifinnoaaGreatDoorNrJ
import Derived.Deep.DeepCutAuto
namespace Go.Proofs.YtideicoifinnoaaGreatDoor
open Go Go.RowKit
open Tp (T)

theorem readOut_tv {L : List Lx.Tok} {i : Int} {w w5 : World} {t : T} {n : Nat} {x : Int} (ho : readOut L i = (t, n, x)) {e : Ending} {a : Option Addr} {cap : Nat} (he : e = .returned (.tuple #[tv t a cap, .int .i64 (n : Int), .int .i64 x])) (ht : TyAt (LT w5.heap.size) w5 t a cap) (hb : Below w.heap.size w w5) : ReadPost L i w e w5 := by
  unfold ReadPost
  rw [ho]
  exact ⟨a, cap, he, ht, hb⟩
/-- A return with nothing read. -/
theorem rd_ret {L : List Lx.Tok} {i : Int} {w w5 : World} {t : T} {a : Option Addr} {cap n N : Nat} {x : Int} (ho : readOut L i = (t, n, x)) (hb : Below w.heap.size w w5) {fz : Nat × Nat} (hx : w5.heap[N]? = some (Obj.cells #[.int .i64 t.kind, .int .i64 t.num, .slice a t.kids.length cap] 24 fz)) (ht : TyAt (LT w5.heap.size) w5 t a cap) {fr : Act}
    (hd : fr.defers = []) (h4 : fr.tmps.getD 4 undef = .pointer (some ⟨N, 0, none⟩)) (h5 : fr.tmps.getD 5 undef = .int .i64 (n : Int)) (h6 : fr.tmps.getD 6 undef = .int .i64 x) : bodyPost Tryz.prog Tryz.f11 (ReadPost L i w) .ret fr w5 := by
  refine bodyPost_ret_by (v := .tuple #[tv t a cap, .int .i64 (n : Int), .int .i64 x]) ?_ hd (readOut_tv ho rfl ht hb)
  rw [results_cell_tmp2 (p := 4) (u := 5) (u' := 6) (ty := 24) (by kernel_rfl), h4, h5, h6]
  simp [asAddr, Result.andThen, run_loadVar_row w5 _ 24 24 _ _ _ hx Tryz.underlying24 rfl (by kernel_rfl), tv]
theorem rest_lt {t : T} {ks ks' : List Nt.Tk} {ps ps' : Nt.Ps} (h : Nt.rest t ks ps = .more ks' ps') : ks'.length < ks.length := Nt.restF_le _ t ks ps ks' ps' h
set_option maxRecDepth 100000 in
set_option maxHeartbeats 4000000 in
theorem read_any (la : Option Addr) (lcap : Nat) (L : List Lx.Tok) (i : Int) (w : World) (h : TksAt w.heap.size w la L) (hL : L.length ≤ 100000) (hi : I64 i) (hg : Good w) :
    Calls Tryz.prog 11 #[.slice la L.length lcap, .int .i64 i] w (ReadPost L i w) := by
  obtain ⟨N, hN⟩ : ∃ N, w.heap.size = N := ⟨_, rfl⟩
  obtain ⟨m, hm⟩ : ∃ m : Nat, L.length = m := ⟨_, rfl⟩
  by_cases hin : i < 0 ∨ (L.length : Int) < i
  · have hnew := World.alloc_heap_new w (.cells #[.int .i64 0, .int .i64 0, .slice none 0 0] 24)
    have hbl : Below w.heap.size w (w.alloc (.cells #[.int .i64 0, .int .i64 0, .slice none 0 0] 24)) := (Below.refl _ _).alloc (Nat.le_refl _) _
    have HO := Lib.hid (readOut_out hin); have HBL := Lib.hid hbl; have HNEW := Lib.hid hnew; have HNN := Lib.hid hN
    rw [hm] at hin ⊢
    rw [hN] at hnew
    have x0 : (w.alloc (.cells #[.int .i64 0, .int .i64 0, .slice none 0 0] 24)).cell? ⟨N, 0, none⟩ = some (.int .i64 0) := cell_box hnew rfl rfl
    have x1 : (w.alloc (.cells #[.int .i64 0, .int .i64 0, .slice none 0 0] 24)).cell? ⟨N, 1, none⟩ = some (.int .i64 0) := cell_box hnew rfl rfl
    have x2 : (w.alloc (.cells #[.int .i64 0, .int .i64 0, .slice none 0 0] 24)).cell? ⟨N, 2, none⟩ = some (.slice none 0 0) := cell_box hnew rfl rfl
    have zf : ∀ j, (w.alloc (.cells #[.int .i64 0, .int .i64 0, .slice none 0 0] 24)).frozen? ⟨N, j, none⟩ = false := fun j => by simp [World.frozen?, hnew]
    obtain ⟨b, hb⟩ : ∃ b, decide (i < 0) = b := ⟨_, rfl⟩
    have hb2 : b = false → decide (i > (m : Int)) = true := fun e => by subst e; rw [decide_eq_true_eq]; have := of_decide_eq_false hb; omega
    have HM := Lib.hid hm
    clear h hL hi hg hin hbl hnew hm
    go_enter Tryz.func11, Tryz.ntmps11
    cases b with
    | true =>
      clear hb2
      go_wp2_with fail
      have hnw := HNEW.out
      rw [HNN.out] at hnw
      refine rd_ret HO.out HBL.out hnw (noT_at _ _) ?_ ?_ ?_ ?_ <;> rfl
    | false =>
      have hb3 := hb2 rfl
      clear hb2
      go_wp2_with fail
      have hnw := HNEW.out
      rw [HNN.out] at hnw
      refine rd_ret HO.out HBL.out hnw (noT_at _ _) ?_ ?_ ?_ ?_ <;> rfl
  · obtain ⟨n, rfl⟩ : ∃ n : Nat, i = n := ⟨i.toNat, by omega⟩
    have hn : n ≤ L.length := by omega
    have h0 := rd_start (lcap := lcap) h hL hn
    have f1 : ¬ (n : Int) < 0 := by omega
    have f2 : ¬ (n : Int) > (m : Int) := by omega
    have H0 := Lib.hid h0; have HM := Lib.hid hm; have HNN := Lib.hid hN; have HLL := Lib.hid hL; have HG := Lib.hid hg; have HNL := Lib.hid hn
    rw [hm]
    clear h hL hi hg hin h0 hn
    go_enter Tryz.func11, Tryz.ntmps11
    go_wp2_with fail
    clear f1 f2
    go_loopg [8] (L.length - n + 1) (RdLoop L la lcap n N w)
    case atStart =>
      rw [← HM.out, ← HNN.out]
      exact ⟨Nt.noT, none, 0, n, [], .slice none 0 0, H0.out, .inl ⟨rfl, rfl, rfl, rfl, rfl, Nat.zero_le _, rfl⟩⟩
    case round =>
      obtain ⟨t1, a1, cap1, next, S, v, hk, ⟨rfl, rfl, rfl, rfl, heq, hs, rfl⟩ | ⟨rfl, hty, heq, rfl⟩⟩ := hrel
      · have hS : S.length ≤ 500000 := by have := hk.rd.fit; have := HLL.out; omega
        have hat := atom_any hk.rd hS (fun w' hb => HG.out.below (by rw [HNN.out]; exact hk.low.trans hb))
        have hrk := read_at L next S
        obtain ⟨p, hp⟩ : ∃ p, opens L next = p := ⟨_, rfl⟩
        have hop := opens_le L next hk.rd.fit
        rw [hp] at hrk hop
        unfold AtomPost at hat
        rw [hp] at hat
        cases hlf : leafAt L (next + p) with
        | none =>
          have ha : atomR L next = (5, false, next + p) := by unfold atomR; rw [hp, hlf]
          rw [hlf] at hrk
          rw [ha, show tv (leafT 5) none 0 = Value.agg #[.int .i64 5, .int .i64 0, .slice none 0 0] from rfl] at hat
          have HK := Lib.hid hk; have HAT := Lib.hid hat; have HEQ := Lib.hid heq; have HS := Lib.hid hs; have HOP := Lib.hid hop; have HRK := Lib.hid hrk
          clear hk hat heq hs hS hlf ha hrk hop
          go_wp2_with fail
          refine HAT.out.mono ?_
          rintro e w2 ⟨rfl, ⟨v2, hrd2⟩, hkp2, hlow2⟩
          have hk2 := HK.out.step hrd2 hkp2 hlow2 (parens_st fun b hb => (HK.out.st b hb).imp id (GN.moved hkp2 HK.out.rd.heap)) (parens_np HK.out.np)
          clear hrd2 hkp2 hlow2
          have hal : Below w2.heap.size w2 (w2.alloc (.cells #[.int .i64 5, .int .i64 0, .slice none 0 0] 24)) := (Below.refl _ _).alloc (Nat.le_refl _) _
          have hk3 := hk2.later hal
          have HK3 := Lib.hid hk3
          clear hk2 hal hk3
          go_upto_region 8 with fail
          have hk3 := HK3.out
          clear HK3
          generalize w2.alloc (.cells #[.int .i64 5, .int .i64 0, .slice none 0 0] 24) = w3 at hk3 ⊢
          obtain ⟨c0, c1, c2⟩ := hk3.rd.cells
          have hbx := hk3.box
          have x0 : w3.cell? ⟨N, 0, none⟩ = some (.int .i64 0) := cell_box hbx rfl rfl
          have x1 : w3.cell? ⟨N, 1, none⟩ = some (.int .i64 0) := cell_box hbx rfl rfl
          have x2 : w3.cell? ⟨N, 2, none⟩ = some (.slice none 0 0) := cell_box hbx rfl rfl
          have zf : ∀ j, w3.frozen? ⟨N, j, none⟩ = false := fun j => by simp [World.frozen?, hbx]
          have HK3 := Lib.hid hk3
          clear hk3 hbx
          go_region
          go_wp2_with fail
          have hpu2 := (HK3.out.put (t2 := Nt.noT) (a2 := none) (cap2 := 0)).1.later (Below.refl _ _).drew
          refine rd_ret (readOut_no HNL.out HOP.out ?_) (hpu2.low.mono (Nat.le_of_eq HNN.out)) hpu2.box (noT_at _ _) ?_ ?_ ?_ ?_
          · rw [← HEQ.out, HRK.out]
          all_goals first | rfl | (rw [Int.natCast_add]; rfl)
        | some k =>
          have ha : atomR L next = (k, true, next + p + 1) := by unfold atomR; rw [hp, hlf]
          rw [hlf] at hrk
          rw [ha, show tv (leafT k) none 0 = Value.agg #[.int .i64 (k : Int), .int .i64 0, .slice none 0 0] from rfl] at hat
          have hkz := leafAt_ne hlf
          have hkl := (leafAt_small hlf).1
          have HK := Lib.hid hk; have HAT := Lib.hid hat; have HEQ := Lib.hid heq; have HS := Lib.hid hs; have HOP := Lib.hid hop; have HRK := Lib.hid hrk; have HKZ := Lib.hid hkz; have HKL := Lib.hid hkl
          clear hk hat heq hs hS hlf ha hrk hop hkz hkl
          go_wp2_with fail
          refine HAT.out.mono ?_
          rintro e w2 ⟨rfl, ⟨v2, hrd2⟩, hkp2, hlow2⟩
          have hk2 := HK.out.step hrd2 hkp2 hlow2 (parens_st fun b hb => (HK.out.st b hb).imp id (GN.moved hkp2 HK.out.rd.heap)) (parens_np HK.out.np)
          clear hrd2 hkp2 hlow2
          have hal : Below w2.heap.size w2 (w2.alloc (.cells #[.int .i64 (k : Int), .int .i64 0, .slice none 0 0] 24)) := (Below.refl _ _).alloc (Nat.le_refl _) _
          have hnw := World.alloc_heap_new w2 (.cells #[.int .i64 (k : Int), .int .i64 0, .slice none 0 0] 24)
          have hk3 := hk2.later hal
          have hrs := rest_any hk3.rd (by rw [List.length_append, List.length_replicate]; have := HS.out; have := HLL.out; have := HOP.out; omega) (leafT k) none 0 (leafT_at _ _ k HKL.out) (fun b hb => (hk3.st b hb).imp id GN.k24)
          rw [show tv (leafT k) none 0 = Value.agg #[.int .i64 (k : Int), .int .i64 0, .slice none 0 0] from rfl] at hrs
          have x0 : (w2.alloc (.cells #[.int .i64 (k : Int), .int .i64 0, .slice none 0 0] 24)).cell? ⟨w2.heap.size, 0, none⟩ = some (.int .i64 (k : Int)) := cell_box hnw rfl rfl
          have x1 : (w2.alloc (.cells #[.int .i64 (k : Int), .int .i64 0, .slice none 0 0] 24)).cell? ⟨w2.heap.size, 1, none⟩ = some (.int .i64 0) := cell_box hnw rfl rfl
          have x2 : (w2.alloc (.cells #[.int .i64 (k : Int), .int .i64 0, .slice none 0 0] 24)).cell? ⟨w2.heap.size, 2, none⟩ = some (.slice none 0 0) := cell_box hnw rfl rfl
          have HK3 := Lib.hid hk3; have HRS := Lib.hid hrs
          clear hk2 hal hnw hk3 hrs
          go_wp2_with fail
          refine HRS.out.mono ?_
          clear x0 x1 x2
          have hnp := Nt.np_rest ((ksAt L (next + p + 1)).length + 1) (leafT k) (ksAt L (next + p + 1)) ((List.replicate p paren ++ S).map keyB) (Nt.np_leaf HKZ.out) HK3.out.np
          change Nt.NpO (Nt.rest (leafT k) (ksAt L (next + p + 1)) ((List.replicate p paren ++ S).map keyB)) at hnp
          rintro e w4 ⟨next4, S4, v4, hrd4, hkp4, hlow4, hlen4, hst4, hh⟩
          have hbx4 := (hkp4.cell24 HK3.out.rd.heap (o := 0) ⟨_, _, HK3.out.box⟩).1.trans HK3.out.box
          have hkey : ∀ b ∈ S4, Nt.NpP (S4.map keyB) → b.k = 1 ∨ Nt.Np b.t := fun b hb h => h (keyB b) (List.mem_map_of_mem hb)
          rcases hh with ⟨rfl, hr⟩ | ⟨t4, a4, cap4, rfl, hty4, hr⟩
          · rw [hr] at hnp
            have hk4 := HK3.out.step hrd4 hkp4 hlow4 (fun b hb => by
              rcases hst4 b hb with h | h
              · exact .inl h
              · rcases hkey b hb hnp with h2 | h2
                · exact .inl h2
                · exact .inr (GN.of hbx4 h2 h)) hnp
            have x0 : w4.cell? ⟨N, 0, none⟩ = some (.int .i64 0) := cell_box hbx4 rfl rfl
            have x1 : w4.cell? ⟨N, 1, none⟩ = some (.int .i64 0) := cell_box hbx4 rfl rfl
            have x2 : w4.cell? ⟨N, 2, none⟩ = some (.slice none 0 0) := cell_box hbx4 rfl rfl
            have zf : ∀ j, w4.frozen? ⟨N, j, none⟩ = false := fun j => by simp [World.frozen?, hbx4]
            rw [show tv Nt.noT none 0 = Value.agg #[.int .i64 0, .int .i64 0, .slice none 0 0] from rfl]
            have HK4 := Lib.hid hk4; have HR := Lib.hid hr
            clear hrd4 hkp4 hlow4 hst4 hbx4 hkey hk4 hnp hr
            go_wp2_with fail
            have hlt := rest_lt HR.out
            have hf4 := HK4.out.rd.fit
            rw [ksAt_len, ksAt_len] at hlt
            go_roundg (L.length - next4 + 1)
            case measure => omega
            case rel =>
              refine ⟨Nt.noT, none, 0, next4, S4, v4, (HK4.out.put (t2 := Nt.noT) (a2 := none) (cap2 := 0)).1, .inl ⟨rfl, rfl, rfl, rfl, ?_, ?_, rfl⟩⟩
              · rw [← HEQ.out, HRK.out]
                simp only [HR.out]
                rfl
              · have := HS.out
                rw [List.length_append, List.length_replicate] at hlen4
                omega
          · rw [hr] at hnp
            have hk4 := HK3.out.step hrd4 hkp4 hlow4 (fun b hb => by
              rcases hst4 b hb with h | h
              · exact .inl h
              · rcases hkey b hb hnp.2 with h2 | h2
                · exact .inl h2
                · exact .inr (GN.of hbx4 h2 h)) hnp.2
            have x0 : w4.cell? ⟨N, 0, none⟩ = some (.int .i64 0) := cell_box hbx4 rfl rfl
            have x1 : w4.cell? ⟨N, 1, none⟩ = some (.int .i64 0) := cell_box hbx4 rfl rfl
            have x2 : w4.cell? ⟨N, 2, none⟩ = some (.slice none 0 0) := cell_box hbx4 rfl rfl
            have zf : ∀ j, w4.frozen? ⟨N, j, none⟩ = false := fun j => by simp [World.frozen?, hbx4]
            have hty5 := GN.of hbx4 hnp.1 hty4
            rw [show tv t4 a4 cap4 = Value.agg #[.int .i64 t4.kind, .int .i64 t4.num, .slice a4 t4.kids.length cap4] from rfl]
            have HK4 := Lib.hid hk4; have HR := Lib.hid hr; have HTY := Lib.hid hty5
            clear hrd4 hkp4 hlow4 hst4 hbx4 hkey hk4 hnp hr hty4 hty5
            go_wp2_with fail
            go_roundg 0
            case measure => omega
            case rel =>
              have hpu := HK4.out.put (t2 := t4) (a2 := a4) (cap2 := cap4)
              refine ⟨t4, a4, cap4, next4, S4, v4, hpu.1, .inr ⟨rfl, hpu.2 HTY.out, ?_, rfl⟩⟩
              rw [← HEQ.out, HRK.out]
              simp only [HR.out]
      · obtain ⟨c0, c1, c2⟩ := hk.rd.cells
        have hbx := hk.box
        obtain ⟨va, vc, rfl⟩ := own_shapeT hk.rd.own
        have x0 : wr.cell? ⟨N, 0, none⟩ = some (.int .i64 t1.kind) := cell_box hbx rfl rfl
        have x1 : wr.cell? ⟨N, 1, none⟩ = some (.int .i64 t1.num) := cell_box hbx rfl rfl
        have x2 : wr.cell? ⟨N, 2, none⟩ = some (.slice a1 t1.kids.length cap1) := cell_box hbx rfl rfl
        have zf : ∀ j, wr.frozen? ⟨N, j, none⟩ = false := fun j => by simp [World.frozen?, hbx]
        have HK := Lib.hid hk; have HEQ := Lib.hid heq; have HTY := Lib.hid hty
        clear hk hbx hty heq
        cases S with
        | nil =>
          simp only [List.length_nil] at c2
          go_upto_region 12 with fail
          go_region
          go_wp2_with fail
          have hpu := HK.out.put (t2 := t1) (a2 := a1) (cap2 := cap1)
          have hpu2 := hpu.1.later (Below.refl _ _).drew
          have hty := GN.moved (KeepR.of_below (Below.refl _ _).drew) hpu.1.rd.heap (hpu.2 HTY.out)
          refine rd_ret (readOut_ok HNL.out HK.out.rd.fit ?_) (hpu2.low.mono (Nat.le_of_eq HNN.out)) hpu2.box (GN.lt hty) ?_ ?_ ?_ ?_
          · rw [← HEQ.out]; rfl
          all_goals rfl
        | cons b R =>
          obtain ⟨r, hr⟩ : ∃ r, R.length = r := ⟨_, rfl⟩
          have hf : decide ((((r + 1 : Nat)) : Int) > 0) = true := by rw [decide_eq_true_eq]; omega
          simp only [List.length_cons, hr] at c2
          go_upto_region 11 with fail
          go_region
          go_wp2_with fail
          have hpu2 := (HK.out.put (t2 := Nt.noT) (a2 := none) (cap2 := 0)).1.later (Below.refl _ _).drew
          refine rd_ret (readOut_no HNL.out HK.out.rd.fit ?_) (hpu2.low.mono (Nat.le_of_eq HNN.out)) hpu2.box (noT_at _ _) ?_ ?_ ?_ ?_
          · rw [← HEQ.out]; rfl
          all_goals rfl
end Go.Proofs.YtideicoifinnoaaGreatDoor

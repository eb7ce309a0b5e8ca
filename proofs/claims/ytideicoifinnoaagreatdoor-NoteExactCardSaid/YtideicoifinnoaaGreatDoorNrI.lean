/- The reader's rest: its walk. -/
import Derived.Test.YtideicoifinnoaaGreatDoorNrH
import Derived.Deep.DeepCutAuto
import Derived.StillTailTactics
namespace Go.Proofs.YtideicoifinnoaaGreatDoor
open Go Go.RowKit
open Tp (T)

/-- What rest hands back. -/
def RestPost (n0 : Nat) (L : List Lx.Tok) (la : Option Addr) (lcap rb : Nat) (t : T) (next : Nat) (S : List Bg) (w : World) (e : Ending) (w' : World) : Prop :=
  ∃ (next' : Nat) (S' : List Bg) (v' : Value), RdAt n0 L la lcap rb next' S' v' w' ∧ KeepR rb w w' ∧ Below n0 w w' ∧ S'.length ≤ S.length + 1 ∧ (∀ b ∈ S', b.k = 1 ∨ TyAt (K24 w') w' b.t b.a b.cap) ∧
    ((e = .returned (.tuple #[tv Nt.noT none 0, .bool true]) ∧ Nt.rest t (ksAt L next) (S.map keyB) = .more (ksAt L next') (S'.map keyB)) ∨
     (∃ t' a' cap', e = .returned (.tuple #[tv t' a' cap', .bool false]) ∧ TyAt (K24 w') w' t' a' cap' ∧ Nt.rest t (ksAt L next) (S.map keyB) = .done t' (ksAt L next') (S'.map keyB)))
theorem rs_start {n0 : Nat} {L : List Lx.Tok} {la : Option Addr} {lcap rb next : Nat} {S : List Bg} {v : Value} {w : World} (h : RdAt n0 L la lcap rb next S v w) {t : T} {a : Option Addr} {cap : Nat} (ht : TyAt (K24 w) w t a cap) (hst : ∀ b ∈ S, b.k = 1 ∨ TyAt (K24 w) w b.t b.a b.cap) :
    RsRel n0 L la lcap rb w.heap.size w t a cap next S v ((w.alloc (.cells #[.int .i64 t.kind, .int .i64 t.num, .slice a t.kids.length cap] 24)).alloc (.cells #[.int .i64 0, .int .i64 0, .slice none 0 0] 24)) := by
  obtain ⟨w1, h1⟩ : ∃ w1, w.alloc (.cells #[.int .i64 t.kind, .int .i64 t.num, .slice a t.kids.length cap] 24) = w1 := ⟨_, rfl⟩
  obtain ⟨w2, h2⟩ : ∃ w2, w1.alloc (.cells #[.int .i64 0, .int .i64 0, .slice none 0 0] 24) = w2 := ⟨_, rfl⟩
  rw [h1, h2]
  have s1 : w1.heap.size = w.heap.size + 1 := by rw [← h1]; simp
  have b1 : Below w.heap.size w w1 := by rw [← h1]; exact (Below.refl _ _).alloc (Nat.le_refl _) _
  have b2 : Below w1.heap.size w1 w2 := by rw [← h2]; exact (Below.refl _ _).alloc (Nat.le_refl _) _
  have n1 := World.alloc_heap_new w (.cells #[.int .i64 t.kind, .int .i64 t.num, .slice a t.kids.length cap] 24)
  have n2 := World.alloc_heap_new w1 (.cells #[.int .i64 0, .int .i64 0, .slice none 0 0] 24)
  rw [h1] at n1
  rw [h2, s1] at n2
  have hb := b1.trans (b2.mono (by omega))
  have mv : ∀ {t : T} {a : Option Addr} {cap : Nat}, TyAt (K24 w) w t a cap → TyAt (GR w.heap.size w2) w2 t a cap := fun hx =>
    hx.moved (fun b o hb' => by obtain ⟨cur, fz, hc⟩ := hb'; unfold World.cell?; rw [hb.block b (Array.getElem?_eq_some_iff.1 hc).1]) (fun b hb' => by
      obtain ⟨cur, fz, hc⟩ := hb'
      have hlt := (Array.getElem?_eq_some_iff.1 hc).1
      exact ⟨⟨cur, fz, (hb.block b hlt).trans hc⟩, by omega, by omega⟩)
  exact ⟨h.later h.le hb, (b2.block _ (by omega)).trans n1, n2, mv ht, fun b hb' => (hst b hb').imp id mv, KeepR.of_below hb, hb.mono h.le, rfl⟩
/-- A list of it. -/
theorem RsRel.list {n0 : Nat} {L : List Lx.Tok} {la : Option Addr} {lcap rb N : Nat} {w : World} {t : T} {a : Option Addr} {cap next : Nat} {S : List Bg} {v : Value} {w2 : World} (h : RsRel n0 L la lcap rb N w t a cap next S v w2) (hn : n0 ≤ N) :
    RsRel n0 L la lcap rb N w (.mk 8 0 [t]) (some ⟨w2.heap.size, 0, none⟩) 1 next S v ((((w2.setCell ⟨N, 0, none⟩ (.int .i64 8)).setCell ⟨N, 1, none⟩ (.int .i64 0)).setCell ⟨N, 2, none⟩ (.slice (some ⟨w2.heap.size, 0, none⟩) 1 1)).alloc (.cells #[.int .i64 t.kind, .int .i64 t.num, .slice a t.kids.length cap] 24)) := by
  have h1 := h.row (.cells #[.int .i64 t.kind, .int .i64 t.num, .slice a t.kids.length cap] 24)
  have hM := World.alloc_heap_new w2 (.cells #[.int .i64 t.kind, .int .i64 t.num, .slice a t.kids.length cap] 24)
  have hlt : N + 1 < w2.heap.size := (Array.getElem?_eq_some_iff.1 h.res).1
  have hty := ty_row1 (k := 8) (by unfold I64; omega) hM (show w2.heap.size ≠ N from by omega) (show w2.heap.size ≠ N + 1 from by omega) h1.ty
  have h2 := h1.put hn hty
  rw [World.setCell_alloc_past _ N 0 _ (by omega), World.setCell_alloc_past _ N 1 _ (by simp [World.setCell]; omega), World.setCell_alloc_past _ N 2 _ (by simp [World.setCell]; omega)] at h2
  exact h2
theorem lists_word {L : List Lx.Tok} {n : Nat} (h : isTk L n 2 Nt.sWord = true) (t : T) : Nt.lists (ksAt L n) t = Nt.lists (ksAt L (n + 1)) (.mk 8 0 [t]) := by
  rw [ksAt_tail h, Nt.lists, if_pos rfl]
theorem lists_none {L : List Lx.Tok} {n : Nat} (h : isTk L n 2 Nt.sWord = false) (t : T) : Nt.lists (ksAt L n) t = (t, ksAt L n) := Nt.lists_stop (by rw [← isTk_hd]; exact h) t
theorem isTk_lt {L : List Lx.Tok} {n q : Nat} {s : List UInt8} (h : isTk L n q s = true) : n < L.length := by
  cases hx : L[n]? with
  | none => unfold isTk at h; rw [hx] at h; cases h
  | some x => exact (List.getElem?_eq_some_iff.1 hx).1
/-- A zero result is laid, and handed back beside 'true'. -/
theorem RsRel.zero {n0 : Nat} {L : List Lx.Tok} {la : Option Addr} {lcap rb N : Nat} {w : World} {t : T} {a : Option Addr} {cap next : Nat} {S : List Bg} {v : Value} {w2 : World} (h : RsRel n0 L la lcap rb N w t a cap next S v w2) (hn : n0 ≤ N) :
    ∃ w3, (((w2.setCell ⟨N + 1, 0, none⟩ (.int .i64 0)).setCell ⟨N + 1, 1, none⟩ (.int .i64 0)).setCell ⟨N + 1, 2, none⟩ (.slice none 0 0)) = w3 ∧ w3.heap[N + 1]? = some (Obj.cells #[.int .i64 0, .int .i64 0, .slice none 0 0] 24 (0, 0)) ∧
      RdAt n0 L la lcap rb next S v w3 ∧ KeepR rb w w3 ∧ Below n0 w w3 ∧ (∀ b ∈ S, b.k = 1 ∨ TyAt (K24 w3) w3 b.t b.a b.cap) := by
  have hB := boxed h.res (.int .i64 0) (.int .i64 0) (.slice none 0 0)
  have hR := h.rd.boxes h.res (show n0 ≤ N + 1 by omega) (.int .i64 0) (.int .i64 0) (.slice none 0 0)
  have hl : Below n0 w2 (((w2.setCell ⟨N + 1, 0, none⟩ (.int .i64 0)).setCell ⟨N + 1, 1, none⟩ (.int .i64 0)).setCell ⟨N + 1, 2, none⟩ (.slice none 0 0)) := (((Below.refl n0 w2).setCell (p := ⟨N + 1, 0, none⟩) (show n0 ≤ N + 1 by omega) _).setCell (p := ⟨N + 1, 1, none⟩) (show n0 ≤ N + 1 by omega) _).setCell (p := ⟨N + 1, 2, none⟩) (show n0 ≤ N + 1 by omega) _
  refine ⟨_, rfl, hB.cells, hR, fun k h1 h2 h3 => ?_, h.low.trans hl, fun b hb => (h.st b hb).imp id (fun hx => ?_)⟩
  · rw [hB.rest k (by rw [← h.old]; omega)]
    exact h.keep k h1 h2 h3
  · refine hx.moved (fun q o hq => by unfold World.cell?; rw [hB.rest q hq.2.2]) (fun q hq => ?_)
    obtain ⟨cur, fz, hc⟩ := hq.1
    exact ⟨cur, fz, (hB.rest q hq.2.2).trans hc⟩
/-- Its type is laid as the result. -/
theorem RsRel.lay {n0 : Nat} {L : List Lx.Tok} {la : Option Addr} {lcap rb N : Nat} {w : World} {t : T} {a : Option Addr} {cap next : Nat} {S : List Bg} {v : Value} {w2 : World} (h : RsRel n0 L la lcap rb N w t a cap next S v w2) (hn : n0 ≤ N) :
    ∃ w3, (((w2.setCell ⟨N + 1, 0, none⟩ (.int .i64 t.kind)).setCell ⟨N + 1, 1, none⟩ (.int .i64 t.num)).setCell ⟨N + 1, 2, none⟩ (.slice a t.kids.length cap)) = w3 ∧ w3.heap[N + 1]? = some (Obj.cells #[.int .i64 t.kind, .int .i64 t.num, .slice a t.kids.length cap] 24 (0, 0)) ∧
      RdAt n0 L la lcap rb next S v w3 ∧ KeepR rb w w3 ∧ Below n0 w w3 ∧ (∀ b ∈ S, b.k = 1 ∨ TyAt (K24 w3) w3 b.t b.a b.cap) ∧ TyAt (K24 w3) w3 t a cap := by
  have hB := boxed h.res (.int .i64 t.kind) (.int .i64 t.num) (.slice a t.kids.length cap)
  have hR := h.rd.boxes h.res (show n0 ≤ N + 1 by omega) (.int .i64 t.kind) (.int .i64 t.num) (.slice a t.kids.length cap)
  have hl : Below n0 w2 (((w2.setCell ⟨N + 1, 0, none⟩ (.int .i64 t.kind)).setCell ⟨N + 1, 1, none⟩ (.int .i64 t.num)).setCell ⟨N + 1, 2, none⟩ (.slice a t.kids.length cap)) := (((Below.refl n0 w2).setCell (p := ⟨N + 1, 0, none⟩) (show n0 ≤ N + 1 by omega) _).setCell (p := ⟨N + 1, 1, none⟩) (show n0 ≤ N + 1 by omega) _).setCell (p := ⟨N + 1, 2, none⟩) (show n0 ≤ N + 1 by omega) _
  have mv : ∀ {t2 : T} {a2 : Option Addr} {cap2 : Nat}, TyAt (GR N w2) w2 t2 a2 cap2 → TyAt (K24 (((w2.setCell ⟨N + 1, 0, none⟩ (.int .i64 t.kind)).setCell ⟨N + 1, 1, none⟩ (.int .i64 t.num)).setCell ⟨N + 1, 2, none⟩ (.slice a t.kids.length cap))) (((w2.setCell ⟨N + 1, 0, none⟩ (.int .i64 t.kind)).setCell ⟨N + 1, 1, none⟩ (.int .i64 t.num)).setCell ⟨N + 1, 2, none⟩ (.slice a t.kids.length cap)) t2 a2 cap2 := fun hx => by
    refine hx.moved (fun q o hq => by unfold World.cell?; rw [hB.rest q hq.2.2]) (fun q hq => ?_)
    obtain ⟨cur, fz, hc⟩ := hq.1
    exact ⟨cur, fz, (hB.rest q hq.2.2).trans hc⟩
  refine ⟨_, rfl, hB.cells, hR, fun k h1 h2 h3 => ?_, h.low.trans hl, fun b hb => (h.st b hb).imp id mv, mv h.ty⟩
  rw [hB.rest k (by rw [← h.old]; omega)]
  exact h.keep k h1 h2 h3
/-- What was begun last is dropped. -/
theorem RdAt.pop {n0 : Nat} {L : List Lx.Tok} {la : Option Addr} {lcap rb next : Nat} {b : Bg} {R : List Bg} {g gcap r : Nat} {w : World} (h : RdAt n0 L la lcap rb next (b :: R) (.slice (some ⟨g, 0, none⟩) (r + 1) gcap) w) (hr : R.length = r)
    (hown : w.ownsRow n0 103 4 (.slice (some ⟨g, 0, none⟩) r gcap) r (bgCells R.reverse)) :
    RdAt n0 L la lcap rb next R (.slice (some ⟨g, 0, none⟩) r gcap) (w.setCell ⟨rb, 2, none⟩ (.slice (some ⟨g, 0, none⟩) r gcap)) := by
  have hgb : g ≠ rb := fun e => by
    obtain ⟨_, ⟨h1, _⟩ | ⟨g', _, _, h1, _, h3, _⟩⟩ := id h.own
    · cases h1
    · injection h1 with h1
      injection h1 with h1
      injection h1 with h1
      subst h1
      rw [e, h.heap] at h3
      injection h3 with h3
      injection h3 with _ h3
      revert h3; decide
  refine ⟨set2 h.heap, ?_, h.toks.below ((Below.refl n0 w).setCell (p := ⟨rb, 2, none⟩) h.base _), h.base, h.fit, h.small⟩
  rw [hr]
  refine own_same hown (fun k hk => ?_)
  have hkg : g = k := by injection hk
  subst hkg
  exact Below.heap_setCell _ _ _ _ hgb
set_option maxRecDepth 100000 in
set_option maxHeartbeats 4000000 in
theorem rest_any {n0 : Nat} {L : List Lx.Tok} {la : Option Addr} {lcap rb next : Nat} {S : List Bg} {v : Value} {w : World} (h : RdAt n0 L la lcap rb next S v w) (hS : S.length ≤ 500000) (t : T) (a : Option Addr) (cap : Nat) (ht : TyAt (K24 w) w t a cap) (hst : ∀ b ∈ S, b.k = 1 ∨ TyAt (K24 w) w b.t b.a b.cap) :
    Calls Tryz.prog 27 #[.pointer (some ⟨rb, 0, none⟩), tv t a cap] w (RestPost n0 L la lcap rb t next S w) := by
  have h0 := rs_start h ht hst
  have hn : n0 ≤ w.heap.size := h.le
  have hrb : rb < w.heap.size := (Array.getElem?_eq_some_iff.1 h.heap).1
  obtain ⟨N, hN⟩ : ∃ N, w.heap.size = N := ⟨_, rfl⟩
  unfold tv
  rw [hN] at h0 hn hrb
  have H0 := Lib.hid h0; have HN := Lib.hid hn; have HSS := Lib.hid hS; have HRB := Lib.hid hrb; have HNN := Lib.hid hN
  clear h0 hn hS h ht hst hrb hN
  go_enter Tryz.func27, Tryz.ntmps27
  go_wp2_with fail
  rw [HNN.out]
  go_loopg [6] (L.length - next) (fun gk _ wr => ∃ (t1 : T) (a1 : Option Addr) (cap1 next1 : Nat) (S1 : List Bg) (v1 : Value), RsRel n0 L la lcap rb N w t1 a1 cap1 next1 S1 v1 wr ∧ Nt.rest t1 (ksAt L next1) (S1.map keyB) = Nt.rest t (ksAt L next) (S.map keyB) ∧ S1.length ≤ S.length ∧ gk = L.length - next1)
  case atStart => exact ⟨t, a, cap, next, S, v, H0.out, rfl, Nat.le_refl _, rfl⟩
  case round =>
    obtain ⟨t1, a1, cap1, next1, S1, v1, hrs, heq, hl1, rfl⟩ := hrel
    have HRS := Lib.hid hrs; have HEQ := Lib.hid heq; have HL1 := Lib.hid hl1
    clear hrs heq hl1
    go_wp2_with fail
    go_loopg [6] (L.length - next1) (fun gk _ wi => ∃ (t2 : T) (a2 : Option Addr) (cap2 next2 : Nat), RsRel n0 L la lcap rb N w t2 a2 cap2 next2 S1 v1 wi ∧ Nt.lists (ksAt L next2) t2 = Nt.lists (ksAt L next1) t1 ∧ next1 ≤ next2 ∧ gk = L.length - next2)
    case atStart => exact ⟨t1, a1, cap1, next1, HRS.out, rfl, Nat.le_refl _, rfl⟩
    case round =>
      obtain ⟨t2, a2, cap2, next2, hri, hli, hn2, rfl⟩ := hrel
      have HRI := Lib.hid hri; have HLI := Lib.hid hli; have HN2 := Lib.hid hn2
      clear hri hli hn2
      obtain ⟨r, hr⟩ : ∃ r, isTk L next2 2 Nt.sWord = r := ⟨_, rfl⟩
      have htk := take_any HRI.out.rd 2 Nt.sWord
      rw [hr] at htk
      have HTK := Lib.hid htk; have HR := Lib.hid hr
      clear htk hr
      go_wp2_with fail
      refine HTK.out.mono ?_
      rintro e w2 ⟨rfl, hrd2, hkp2, hlow2, -⟩
      have hrs2 := HRI.out.step hrd2 (fun _ hb => hb) hkp2 hlow2
      have HRS2 := Lib.hid hrs2
      clear hrd2 hkp2 hlow2 hrs2
      cases r with
      | true =>
        have hrs3 := HRS2.out
        rw [if_pos rfl] at hrs3
        have HRS3 := Lib.hid hrs3
        clear hrs3
        obtain ⟨k2, hk2⟩ : ∃ k, t2.kind = k := ⟨_, rfl⟩
        obtain ⟨m2, hm2⟩ : ∃ k, t2.num = k := ⟨_, rfl⟩
        obtain ⟨l2, hl2⟩ : ∃ k, t2.kids.length = k := ⟨_, rfl⟩
        have hbx := HRS2.out.box
        rw [hk2, hm2, hl2] at hbx
        have x0 : w2.cell? ⟨N, 0, none⟩ = some (.int .i64 k2) := cell_box hbx rfl rfl
        have x1 : w2.cell? ⟨N, 1, none⟩ = some (.int .i64 m2) := cell_box hbx rfl rfl
        have x2 : w2.cell? ⟨N, 2, none⟩ = some (.slice a2 l2 cap2) := cell_box hbx rfl rfl
        have zz : ∀ j, w2.frozen? ⟨N, j, none⟩ = false := fun j => by simp [World.frozen?, hbx]
        have hNl : N < w2.heap.size := (Array.getElem?_eq_some_iff.1 hbx).1
        have HK2 := Lib.hid hk2; have HM2 := Lib.hid hm2; have HL2 := Lib.hid hl2; have HNL := Lib.hid hNl
        clear hk2 hm2 hl2 hbx
        go_wp2_with fail
        go_roundg (L.length - (next2 + 1))
        case measure => have := isTk_lt HR.out; omega
        case rel =>
          have hl := HRS3.out.list HN.out
          rw [HK2.out, HM2.out, HL2.out] at hl
          exact ⟨_, _, _, _, hl, by rw [← HLI.out, lists_word HR.out], by have := HN2.out; omega, rfl⟩
      | false =>
        have hrs3 := HRS2.out
        rw [if_neg (by simp)] at hrs3
        have HRS3 := Lib.hid hrs3
        clear hrs3
        have hls : Nt.lists (ksAt L next1) t1 = (t2, ksAt L next2) := by rw [← HLI.out, lists_none HR.out]
        have hwi := within_any HRS3.out.rd 2
        obtain ⟨b2, hb2⟩ : ∃ x, inTop S1 2 = x := ⟨_, rfl⟩
        rw [hb2] at hwi
        have HLS := Lib.hid hls; have HWI := Lib.hid hwi; have HB2 := Lib.hid hb2
        clear hls hwi hb2
        obtain ⟨r5, hr5⟩ : ∃ r, isTk L next2 5 [42] = r := ⟨_, rfl⟩
        have hrd4 := HRS3.out.drewn
        have htk5 := take_any hrd4.rd 5 [42]
        rw [hr5] at htk5
        have HTK5 := Lib.hid htk5; have HR5 := Lib.hid hr5; have HRD4 := Lib.hid hrd4
        clear htk5 hr5 hrd4
        go_upto_region 3 with fail
        go_cut [17] (fun v17 wx => v17 = .bool (!b2 && r5) ∧ RsRel n0 L la lcap rb N w t2 a2 cap2 (if (!b2 && r5) = true then next2 + 1 else next2) S1 v1 wx)
        case first =>
          cases b2 with
          | true =>
            go_wp2_with fail
            refine HWI.out.mono ?_
            rintro e w3 ⟨rfl, rfl⟩
            go_wp2_with fail
            go_meet
            exact ⟨rfl, HRD4.out⟩
          | false =>
            go_wp2_with fail
            refine HWI.out.mono ?_
            rintro e w3 ⟨rfl, rfl⟩
            go_wp2_with fail
            refine HTK5.out.mono ?_
            rintro e w5 ⟨rfl, hrd5, hkp5, hlow5, -⟩
            have HRS5 := Lib.hid (HRD4.out.step hrd5 (fun _ hb => hb) hkp5 hlow5)
            clear hrd5 hkp5 hlow5
            go_wp2_with fail
            go_meet
            exact ⟨rfl, HRS5.out⟩
        case rest =>
          obtain ⟨rfl, hrs5⟩ := hcut
          obtain ⟨s5, hs5⟩ : ∃ x, (!b2 && r5) = x := ⟨_, rfl⟩
          rw [hs5] at hrs5 ⊢
          have HS5 := Lib.hid hs5
          clear hs5
          cases s5 with
          | true =>
            rw [if_pos rfl] at hrs5
            have hbb : b2 = false ∧ r5 = true := by have := HS5.out; revert this; cases b2 <;> cases r5 <;> simp
            obtain ⟨rfl, rfl⟩ := hbb
            have hr6 := hrs5
            obtain ⟨k2, hk2⟩ : ∃ k, t2.kind = k := ⟨_, rfl⟩
            obtain ⟨m2, hm2⟩ : ∃ k, t2.num = k := ⟨_, rfl⟩
            obtain ⟨l2, hl2⟩ : ∃ k, t2.kids.length = k := ⟨_, rfl⟩
            have hbx := hrs5.box
            rw [hk2, hm2, hl2] at hbx
            have x0 : wc.cell? ⟨N, 0, none⟩ = some (.int .i64 k2) := cell_box hbx rfl rfl
            have x1 : wc.cell? ⟨N, 1, none⟩ = some (.int .i64 m2) := cell_box hbx rfl rfl
            have x2 : wc.cell? ⟨N, 2, none⟩ = some (.slice a2 l2 cap2) := cell_box hbx rfl rfl
            have hbg := begin_any hr6.rd (by have := HL1.out; have := HSS.out; omega) 2 t2 a2 cap2
            unfold tv at hbg
            rw [hk2, hm2, hl2] at hbg
            have HBG := Lib.hid hbg; have HR6 := Lib.hid hr6
            clear hbg hr6 hbx hk2 hm2 hl2 hrs5
            go_wp2_with fail
            refine HBG.out.mono ?_
            rintro e w6 ⟨⟨u6, rfl⟩, ⟨v6, hrd6⟩, hkp6, hlow6⟩
            have hrs6 : RsRel n0 L la lcap rb N w t2 a2 cap2 (next2 + 1) (⟨2, t2, a2, cap2⟩ :: S1) v6 w6 := by
              have hs : w.heap.size ≤ wc.heap.size := by rw [HR6.out.old]; exact Nat.le_of_lt (Array.getElem?_eq_some_iff.1 HR6.out.box).1
              have hty := GR.moved hkp6 HR6.out.rd.heap HR6.out.ty
              refine ⟨hrd6, (hkp6.cell24 HR6.out.rd.heap (o := 0) ⟨_, _, HR6.out.box⟩).1.trans HR6.out.box, (hkp6.cell24 HR6.out.rd.heap (o := 0) ⟨_, _, HR6.out.res⟩).1.trans HR6.out.res, hty, fun b hb => ?_, HR6.out.keep.trans hkp6 hs, HR6.out.low.trans hlow6, HR6.out.old⟩
              rcases List.mem_cons.1 hb with rfl | hb
              · exact .inr hty
              · exact (HR6.out.st b hb).imp id (GR.moved hkp6 HR6.out.rd.heap)
            have hrs := hrs6.res
            have z0 : w6.cell? ⟨N + 1, 0, none⟩ = some (.int .i64 0) := cell_box hrs rfl rfl
            have z1 : w6.cell? ⟨N + 1, 1, none⟩ = some (.int .i64 0) := cell_box hrs rfl rfl
            have z2 : w6.cell? ⟨N + 1, 2, none⟩ = some (.slice none 0 0) := cell_box hrs rfl rfl
            have zf : ∀ j, w6.frozen? ⟨N + 1, j, none⟩ = false := fun j => by simp [World.frozen?, hrs]
            have HRS6 := Lib.hid hrs6
            clear hrs6 hrs hrd6 hkp6 hlow6 x0 x1 x2
            go_wp2_with fail
            obtain ⟨w7, hw7, hres, hrd7, hkp7, hlow7, hst7⟩ := HRS6.out.zero HN.out
            rw [hw7]
            refine bodyPost_ret_by (v := .tuple #[.agg #[.int .i64 0, .int .i64 0, .slice none 0 0], .bool true]) ?_ rfl ?_
            · rw [results_cell_tmp (p := 4) (u := 5) (ty := 24) (by kernel_rfl)]
              simp [asAddr, Result.andThen, run_loadVar_row w7 _ 24 24 _ _ _ hres Tryz.underlying24 rfl (by kernel_rfl)]
            · refine ⟨next2 + 1, _, v6, hrd7, hkp7, hlow7, by have := HL1.out; simp; omega, hst7, .inl ⟨rfl, ?_⟩⟩
              rw [← HEQ.out, Nt.rest_eq, HLS.out]
              have e1 : Nt.topIs 2 (S1.map keyB) = false := by rw [← inTop_key]; exact HB2.out
              have e2 : Nt.hd (ksAt L next2) 5 [42] = true := by rw [← isTk_hd]; exact HR5.out
              simp only [e1, e2, Bool.not_false, Bool.and_self, if_true]
              rw [ksAt_tail HR5.out]
              rfl
          | false =>
            rw [if_neg (by simp)] at hrs5
            have hwi6 := within_any hrs5.rd 2
            rw [HB2.out] at hwi6
            have HWI6 := Lib.hid hwi6; have HRS5 := Lib.hid hrs5
            clear hwi6 hrs5
            go_upto_region 6 with fail
            go_cut [23] (fun v23 wx => v23 = .bool b2 ∧ RsRel n0 L la lcap rb N w t2 a2 cap2 next2 S1 v1 wx)
            case first =>
              go_wp2_with fail
              refine HWI6.out.mono ?_
              rintro e w3 ⟨rfl, rfl⟩
              go_wp2_with fail
              go_meet
              exact ⟨rfl, HRS5.out.drewn⟩
            case rest =>
              obtain ⟨rfl, hrs6⟩ := hcut
              have HRS6 := Lib.hid hrs6
              clear hrs6
              go_upto_if 23 with fail
              go_cut [] (fun wx => ∃ t3 a3 cap3 S3 v3, RsRel n0 L la lcap rb N w t3 a3 cap3 next2 S3 v3 wx ∧ Nt.pairK t2 (S1.map keyB) = (t3, S3.map keyB) ∧ S3.length ≤ S1.length)
              case first =>
                cases b2 with
                | false =>
                  go_wp2_with fail
                  go_meet
                  have e1 : Nt.topIs 2 (S1.map keyB) = false := by rw [← inTop_key]; exact HB2.out
                  exact ⟨t2, a2, cap2, S1, v1, HRS6.out, Nt.pairK_plain e1 t2, Nat.le_refl _⟩
                | true =>
                  obtain ⟨b, R, rfl⟩ : ∃ b R, S1 = b :: R := by
                    cases S1 with
                    | nil => exact absurd HB2.out (by simp [inTop])
                    | cons b R => exact ⟨b, R, rfl⟩
                  have hbk : b.k = 2 := by have := HB2.out; unfold inTop at this; exact of_decide_eq_true this
                  have hr5 := HRS6.out
                  have hen := end_any hr5.rd 7 t2 a2 cap2
                  obtain ⟨k2, hk2⟩ : ∃ k, t2.kind = k := ⟨_, rfl⟩
                  obtain ⟨m2, hm2⟩ : ∃ k, t2.num = k := ⟨_, rfl⟩
                  obtain ⟨l2, hl2⟩ : ∃ k, t2.kids.length = k := ⟨_, rfl⟩
                  have hbx := hr5.box
                  unfold tv at hen
                  rw [hk2, hm2, hl2] at hbx hen
                  have x0 : wc.cell? ⟨N, 0, none⟩ = some (.int .i64 k2) := cell_box hbx rfl rfl
                  have x1 : wc.cell? ⟨N, 1, none⟩ = some (.int .i64 m2) := cell_box hbx rfl rfl
                  have x2 : wc.cell? ⟨N, 2, none⟩ = some (.slice a2 l2 cap2) := cell_box hbx rfl rfl
                  have HEN := Lib.hid hen; have HR5 := Lib.hid hr5; have HBK := Lib.hid hbk; have HK2 := Lib.hid hk2; have HM2 := Lib.hid hm2; have HL2 := Lib.hid hl2
                  clear hen hr5 hbk hk2 hm2 hl2 hbx
                  go_wp2_with fail
                  refine HEN.out.mono ?_
                  clear x0 x1 x2
                  rintro e w6 ⟨g, rfl, hg, ⟨fz, hrow⟩, ⟨v6, hrd6⟩, hkp6, hlow6⟩
                  have hrs6 := HR5.out.step hrd6 (fun _ hb => List.mem_cons_of_mem _ hb) hkp6 hlow6
                  have hbt : TyAt (GR N w6) w6 b.t b.a b.cap := GR.moved hkp6 HR5.out.rd.heap ((HR5.out.st b (List.mem_cons_self ..)).resolve_left (by rw [HBK.out]; omega))
                  have hgN : N + 1 < wc.heap.size := (Array.getElem?_eq_some_iff.1 HR5.out.res).1
                  rw [← HK2.out, ← HM2.out, ← HL2.out] at hrow
                  have hty := ty_row2 (k := 7) (by unfold I64; omega) hrow (show g ≠ N by omega) (show g ≠ N + 1 by omega) hbt hrs6.ty
                  have h7 := hrs6.put HN.out hty
                  have hbx6 := hrs6.box
                  have x0 : w6.cell? ⟨N, 0, none⟩ = some (.int .i64 t2.kind) := cell_box hbx6 rfl rfl
                  have x1 : w6.cell? ⟨N, 1, none⟩ = some (.int .i64 t2.num) := cell_box hbx6 rfl rfl
                  have x2 : w6.cell? ⟨N, 2, none⟩ = some (.slice a2 t2.kids.length cap2) := cell_box hbx6 rfl rfl
                  have zf : ∀ j, w6.frozen? ⟨N, j, none⟩ = false := fun j => by simp [World.frozen?, hbx6]
                  have H7 := Lib.hid h7
                  clear hrs6 hbt hty h7 hbx6 hrow hrd6 hkp6 hlow6 hg hgN
                  go_wp2_with fail
                  go_meet
                  exact ⟨_, _, _, R, _, H7.out, by show Nt.pairK t2 ((b.k, b.t) :: R.map keyB) = _; rw [HBK.out, Nt.pairK, if_pos rfl], by simp⟩
              case rest =>
                obtain ⟨t3, a3, cap3, S3, v3, h8, hpk, hl3⟩ := hcut
                have he1 : (!Nt.topIs 2 (S1.map keyB) && Nt.hd (ksAt L next2) 5 [42]) = false := by rw [← inTop_key, ← isTk_hd, HB2.out, HR5.out]; exact HS5.out
                obtain ⟨r8, hr8⟩ : ∃ r, isTk L next2 5 [45, 62] = r := ⟨_, rfl⟩
                have htk8 := take_any h8.rd 5 [45, 62]
                rw [hr8] at htk8
                have HTK8 := Lib.hid htk8; have HR8 := Lib.hid hr8; have H8 := Lib.hid h8; have HPK := Lib.hid hpk; have HL3 := Lib.hid hl3; have HE1 := Lib.hid he1
                clear htk8 hr8 h8 hpk hl3 he1
                go_wp2_with fail
                refine HTK8.out.mono ?_
                rintro e w9 ⟨rfl, hrd9, hkp9, hlow9, -⟩
                have HRS9 := Lib.hid (H8.out.step hrd9 (fun _ hb => hb) hkp9 hlow9)
                clear hrd9 hkp9 hlow9
                cases r8 with
                | true =>
                  have hr6 := HRS9.out
                  rw [if_pos rfl] at hr6
                  obtain ⟨k2, hk2⟩ : ∃ k, t3.kind = k := ⟨_, rfl⟩
                  obtain ⟨m2, hm2⟩ : ∃ k, t3.num = k := ⟨_, rfl⟩
                  obtain ⟨l2, hl2⟩ : ∃ k, t3.kids.length = k := ⟨_, rfl⟩
                  have hbx := hr6.box
                  rw [hk2, hm2, hl2] at hbx
                  have x0 : w9.cell? ⟨N, 0, none⟩ = some (.int .i64 k2) := cell_box hbx rfl rfl
                  have x1 : w9.cell? ⟨N, 1, none⟩ = some (.int .i64 m2) := cell_box hbx rfl rfl
                  have x2 : w9.cell? ⟨N, 2, none⟩ = some (.slice a3 l2 cap3) := cell_box hbx rfl rfl
                  have hbg := begin_any hr6.rd (by have := HL1.out; have := HSS.out; have := HL3.out; omega) 3 t3 a3 cap3
                  unfold tv at hbg
                  rw [hk2, hm2, hl2] at hbg
                  have HBG := Lib.hid hbg; have HR6 := Lib.hid hr6
                  clear hbg hr6 hbx hk2 hm2 hl2
                  go_wp2_with fail
                  refine HBG.out.mono ?_
                  rintro e w6 ⟨⟨u6, rfl⟩, ⟨v6, hrd6⟩, hkp6, hlow6⟩
                  have hrs6 : RsRel n0 L la lcap rb N w t3 a3 cap3 (next2 + 1) (⟨3, t3, a3, cap3⟩ :: S3) v6 w6 := by
                    have hs : w.heap.size ≤ w9.heap.size := by rw [HR6.out.old]; exact Nat.le_of_lt (Array.getElem?_eq_some_iff.1 HR6.out.box).1
                    have hty := GR.moved hkp6 HR6.out.rd.heap HR6.out.ty
                    refine ⟨hrd6, (hkp6.cell24 HR6.out.rd.heap (o := 0) ⟨_, _, HR6.out.box⟩).1.trans HR6.out.box, (hkp6.cell24 HR6.out.rd.heap (o := 0) ⟨_, _, HR6.out.res⟩).1.trans HR6.out.res, hty, fun b hb => ?_, HR6.out.keep.trans hkp6 hs, HR6.out.low.trans hlow6, HR6.out.old⟩
                    rcases List.mem_cons.1 hb with rfl | hb
                    · exact .inr hty
                    · exact (HR6.out.st b hb).imp id (GR.moved hkp6 HR6.out.rd.heap)
                  have hrs := hrs6.res
                  have z0 : w6.cell? ⟨N + 1, 0, none⟩ = some (.int .i64 0) := cell_box hrs rfl rfl
                  have z1 : w6.cell? ⟨N + 1, 1, none⟩ = some (.int .i64 0) := cell_box hrs rfl rfl
                  have z2 : w6.cell? ⟨N + 1, 2, none⟩ = some (.slice none 0 0) := cell_box hrs rfl rfl
                  have zf : ∀ j, w6.frozen? ⟨N + 1, j, none⟩ = false := fun j => by simp [World.frozen?, hrs]
                  have HRS6 := Lib.hid hrs6
                  clear hrs6 hrs hrd6 hkp6 hlow6 x0 x1 x2
                  go_wp2_with fail
                  obtain ⟨w7, hw7, hres, hrd7, hkp7, hlow7, hst7⟩ := HRS6.out.zero HN.out
                  rw [hw7]
                  refine bodyPost_ret_by (v := .tuple #[.agg #[.int .i64 0, .int .i64 0, .slice none 0 0], .bool true]) ?_ rfl ?_
                  · rw [results_cell_tmp (p := 4) (u := 5) (ty := 24) (by kernel_rfl)]
                    simp [asAddr, Result.andThen, run_loadVar_row w7 _ 24 24 _ _ _ hres Tryz.underlying24 rfl (by kernel_rfl)]
                  · refine ⟨next2 + 1, _, v6, hrd7, hkp7, hlow7, by have := HL1.out; have := HL3.out; simp; omega, hst7, .inl ⟨rfl, ?_⟩⟩
                    rw [← HEQ.out, Nt.rest_eq, HLS.out]
                    have e1 := HE1.out
                    have e2 : Nt.hd (ksAt L next2) 5 [45, 62] = true := by rw [← isTk_hd]; exact HR8.out
                    simp only [e1, e2, if_true, Bool.false_eq_true, if_false, HPK.out]
                    rw [ksAt_tail HR8.out]
                    rfl
                | false =>
                  have hr6 := HRS9.out
                  rw [if_neg (by simp)] at hr6
                  have HR6 := Lib.hid hr6
                  clear hr6
                  have he3 : Nt.hd (ksAt L next2) 5 [45, 62] = false := by rw [← isTk_hd]; exact HR8.out
                  have HE3 := Lib.hid he3
                  clear he3
                  go_wp2_with fail
                  go_loopg [33] (S3.length) (fun gk _ wi => ∃ (t4 : T) (a4 : Option Addr) (cap4 : Nat) (S4 : List Bg) (v4 : Value), RsRel n0 L la lcap rb N w t4 a4 cap4 next2 S4 v4 wi ∧ Nt.closeF t4 (S4.map keyB) = Nt.closeF t3 (S3.map keyB) ∧ S4.length ≤ S3.length ∧ gk = S4.length)
                  case atStart => exact ⟨t3, a3, cap3, S3, v3, HR6.out, rfl, Nat.le_refl _, rfl⟩
                  case round =>
                    obtain ⟨t4, a4, cap4, S4, v4, h4, hcl, hl4, rfl⟩ := hrel
                    have hwi := within_any h4.rd 3
                    obtain ⟨b4, hb4⟩ : ∃ x, inTop S4 3 = x := ⟨_, rfl⟩
                    rw [hb4] at hwi
                    have H4 := Lib.hid h4.drewn; have HCL := Lib.hid hcl; have HL4 := Lib.hid hl4; have HWI4 := Lib.hid hwi; have HB4 := Lib.hid hb4
                    clear h4 hcl hl4 hwi hb4
                    go_wp2_with fail
                    refine HWI4.out.mono ?_
                    rintro e w10 ⟨rfl, hw10⟩
                    have h10 := H4.out
                    rw [← hw10] at h10
                    clear hw10
                    cases b4 with
                    | true =>
                      obtain ⟨b, R, rfl⟩ : ∃ b R, S4 = b :: R := by
                        cases S4 with
                        | nil => exact absurd HB4.out (by simp [inTop])
                        | cons b R => exact ⟨b, R, rfl⟩
                      have hbk : b.k = 3 := by have := HB4.out; unfold inTop at this; exact of_decide_eq_true this
                      have hr5 := h10
                      have hen := end_any hr5.rd 9 t4 a4 cap4
                      obtain ⟨k2, hk2⟩ : ∃ k, t4.kind = k := ⟨_, rfl⟩
                      obtain ⟨m2, hm2⟩ : ∃ k, t4.num = k := ⟨_, rfl⟩
                      obtain ⟨l2, hl2⟩ : ∃ k, t4.kids.length = k := ⟨_, rfl⟩
                      have hbx := hr5.box
                      unfold tv at hen
                      rw [hk2, hm2, hl2] at hbx hen
                      have x0 : w10.cell? ⟨N, 0, none⟩ = some (.int .i64 k2) := cell_box hbx rfl rfl
                      have x1 : w10.cell? ⟨N, 1, none⟩ = some (.int .i64 m2) := cell_box hbx rfl rfl
                      have x2 : w10.cell? ⟨N, 2, none⟩ = some (.slice a4 l2 cap4) := cell_box hbx rfl rfl
                      have HEN := Lib.hid hen; have HR5' := Lib.hid hr5; have HBK := Lib.hid hbk; have HK2 := Lib.hid hk2; have HM2 := Lib.hid hm2; have HL2 := Lib.hid hl2
                      clear hen hr5 hbk hk2 hm2 hl2 hbx h10
                      go_wp2_with fail
                      refine HEN.out.mono ?_
                      clear x0 x1 x2
                      rintro e w6 ⟨g, rfl, hg, ⟨fz, hrow⟩, ⟨v6, hrd6⟩, hkp6, hlow6⟩
                      have hrs6 := HR5'.out.step hrd6 (fun _ hb => List.mem_cons_of_mem _ hb) hkp6 hlow6
                      have hbt : TyAt (GR N w6) w6 b.t b.a b.cap := GR.moved hkp6 HR5'.out.rd.heap ((HR5'.out.st b (List.mem_cons_self ..)).resolve_left (by rw [HBK.out]; omega))
                      have hgN : N + 1 < w10.heap.size := (Array.getElem?_eq_some_iff.1 HR5'.out.res).1
                      rw [← HK2.out, ← HM2.out, ← HL2.out] at hrow
                      have hty := ty_row2 (k := 9) (by unfold I64; omega) hrow (show g ≠ N by omega) (show g ≠ N + 1 by omega) hbt hrs6.ty
                      have h7 := hrs6.put HN.out hty
                      have hbx6 := hrs6.box
                      have x0 : w6.cell? ⟨N, 0, none⟩ = some (.int .i64 t4.kind) := cell_box hbx6 rfl rfl
                      have x1 : w6.cell? ⟨N, 1, none⟩ = some (.int .i64 t4.num) := cell_box hbx6 rfl rfl
                      have x2 : w6.cell? ⟨N, 2, none⟩ = some (.slice a4 t4.kids.length cap4) := cell_box hbx6 rfl rfl
                      have zf : ∀ j, w6.frozen? ⟨N, j, none⟩ = false := fun j => by simp [World.frozen?, hbx6]
                      have H7 := Lib.hid h7
                      clear hrs6 hbt hty h7 hbx6 hrow hrd6 hkp6 hlow6 hg hgN
                      go_wp2_with fail
                      go_roundg (R.length)
                      case measure => simp
                      case rel =>
                        exact ⟨_, _, _, R, _, H7.out, by rw [← HCL.out]; show _ = Nt.closeF t4 ((b.k, b.t) :: R.map keyB); rw [HBK.out, Nt.closeF, if_pos rfl], by have := HL4.out; simp at this; omega, rfl⟩
                    | false =>
                      have hcf : Nt.closeF t3 (S3.map keyB) = (t4, S4.map keyB) := by rw [← HCL.out]; exact Nt.closeF_plain (by rw [← inTop_key]; exact HB4.out) t4
                      have hwi1 := within_any h10.rd 1
                      obtain ⟨b5, hb5⟩ : ∃ x, inTop S4 1 = x := ⟨_, rfl⟩
                      rw [hb5] at hwi1
                      have H10 := Lib.hid h10; have HCF := Lib.hid hcf; have HWI1 := Lib.hid hwi1; have HB5 := Lib.hid hb5
                      clear h10 hcf hwi1 hb5
                      obtain ⟨r9, hr9⟩ : ∃ r, isTk L next2 5 [41] = r := ⟨_, rfl⟩
                      have htk9 := take_any H10.out.drewn.rd 5 [41]
                      rw [hr9] at htk9
                      have HTK9 := Lib.hid htk9; have HR9 := Lib.hid hr9
                      clear htk9 hr9
                      go_upto_region 13 with fail
                      go_cut [45] (fun v45 wx => v45 = .bool (!(b5 && r9)) ∧ RsRel n0 L la lcap rb N w t4 a4 cap4 (if (b5 && r9) = true then next2 + 1 else next2) S4 v4 wx)
                      case first =>
                        cases b5 with
                        | false =>
                          go_wp2_with fail
                          refine HWI1.out.mono ?_
                          rintro e w3 ⟨rfl, rfl⟩
                          go_wp2_with fail
                          go_meet
                          exact ⟨rfl, H10.out.drewn⟩
                        | true =>
                          go_wp2_with fail
                          refine HWI1.out.mono ?_
                          rintro e w3 ⟨rfl, rfl⟩
                          go_wp2_with fail
                          refine HTK9.out.mono ?_
                          rintro e w11 ⟨rfl, hrd5, hkp5, hlow5, -⟩
                          have HRS11 := Lib.hid (H10.out.drewn.step hrd5 (fun _ hb => hb) hkp5 hlow5)
                          clear hrd5 hkp5 hlow5
                          go_wp2_with fail
                          go_meet
                          exact ⟨rfl, HRS11.out⟩
                      case rest =>
                        obtain ⟨rfl, hrs11⟩ := hcut
                        obtain ⟨s9, hs9⟩ : ∃ x, (b5 && r9) = x := ⟨_, rfl⟩
                        rw [hs9] at hrs11 ⊢
                        have HS9 := Lib.hid hs9
                        clear hs9
                        cases s9 with
                        | false =>
                          rw [if_neg (by simp)] at hrs11
                          have hbx6 := hrs11.box
                          have hrs := hrs11.res
                          have x0 : wc.cell? ⟨N, 0, none⟩ = some (.int .i64 t4.kind) := cell_box hbx6 rfl rfl
                          have x1 : wc.cell? ⟨N, 1, none⟩ = some (.int .i64 t4.num) := cell_box hbx6 rfl rfl
                          have x2 : wc.cell? ⟨N, 2, none⟩ = some (.slice a4 t4.kids.length cap4) := cell_box hbx6 rfl rfl
                          have z0 : wc.cell? ⟨N + 1, 0, none⟩ = some (.int .i64 0) := cell_box hrs rfl rfl
                          have z1 : wc.cell? ⟨N + 1, 1, none⟩ = some (.int .i64 0) := cell_box hrs rfl rfl
                          have z2 : wc.cell? ⟨N + 1, 2, none⟩ = some (.slice none 0 0) := cell_box hrs rfl rfl
                          have zf : ∀ j, wc.frozen? ⟨N + 1, j, none⟩ = false := fun j => by simp [World.frozen?, hrs]
                          have HRS11 := Lib.hid hrs11
                          clear hrs11 hbx6 hrs
                          go_wp2_with fail
                          obtain ⟨w7, hw7, hres, hrd7, hkp7, hlow7, hst7, hty7⟩ := HRS11.out.lay HN.out
                          rw [hw7]
                          refine bodyPost_ret_by (v := .tuple #[.agg #[.int .i64 t4.kind, .int .i64 t4.num, .slice a4 t4.kids.length cap4], .bool false]) ?_ rfl ?_
                          · rw [results_cell_tmp (p := 4) (u := 5) (ty := 24) (by kernel_rfl)]
                            simp [asAddr, Result.andThen, run_loadVar_row w7 _ 24 24 _ _ _ hres Tryz.underlying24 rfl (by kernel_rfl)]
                          · refine ⟨next2, _, v4, hrd7, hkp7, hlow7, by have := HL1.out; have := HL3.out; have := HL4.out; omega, hst7, .inr ⟨t4, a4, cap4, rfl, hty7, ?_⟩⟩
                            rw [← HEQ.out, Nt.rest_eq, HLS.out]
                            have e1 := HE1.out
                            have e3 := HE3.out
                            have e4 : (Nt.topIs 1 (S4.map keyB) && Nt.hd (ksAt L next2) 5 [41]) = false := by rw [← inTop_key, ← isTk_hd, HB5.out, HR9.out]; exact HS9.out
                            simp only [e1, e3, Bool.false_eq_true, if_false, HPK.out, HCF.out, e4]
                        | true =>
                          rw [if_pos rfl] at hrs11
                          have HRS11 := Lib.hid hrs11
                          clear hrs11
                          go_upto_region 15 with fail
                          obtain ⟨b, R, rfl⟩ : ∃ b R, S4 = b :: R := by
                            cases S4 with
                            | nil => exact absurd HB5.out (by have := HS9.out; revert this; cases b5 <;> simp [inTop])
                            | cons b R => exact ⟨b, R, rfl⟩
                          obtain ⟨g, gcap, rfl, hg1, hg2, hc1, hc2, d0, d1, d2, d3, hown⟩ := bg_top HRS11.out.rd.own
                          obtain ⟨c0, c1, c2⟩ := HRS11.out.rd.cells
                          obtain ⟨r, hr⟩ : ∃ r, R.length = r := ⟨_, rfl⟩
                          simp only [hr] at c2 hc1 hown
                          have hrl : (r : Int) + 1 ≤ 9223372036854775807 := by unfold maxLen at hc2; omega
                          have hpop := bg_pop g (r + 1) gcap r (by omega) hc1
                          have HOWN := Lib.hid hown; have HRR := Lib.hid hr; have HG1 := Lib.hid hg1; have HG2 := Lib.hid hg2
                          have fz0 : wc.frozen? ⟨rb, 2, none⟩ = false := by simp [World.frozen?, HRS11.out.rd.heap]
                          clear hown hr hg1 hg2 d0 d1 d2 d3 hc2 c0 c1
                          go_region
                          go_wp2_with fail
                          go_roundg (L.length - (next2 + 1))
                          case measure =>
                            have h9 : r9 = true := by have := HS9.out; revert this; cases b5 <;> cases r9 <;> simp
                            have := isTk_lt (h9 ▸ HR9.out)
                            have := HN2.out
                            omega
                          case rel =>
                            have h9 : r9 = true := by have := HS9.out; revert this; cases b5 <;> cases r9 <;> simp
                            have hpp : RdAt n0 L la lcap rb (next2 + 1) R (.slice (some ⟨g, 0, none⟩) r gcap) (wc.setCell ⟨rb, 2, none⟩ (.slice (some ⟨g, 0, none⟩) r gcap)) := by
                              have e := HRR.out
                              subst e
                              exact HRS11.out.rd.pop rfl HOWN.out
                            refine ⟨t4, a4, cap4, next2 + 1, R, .slice (some ⟨g, 0, none⟩) r gcap, ?_, ?_, by have := HL1.out; have := HL3.out; have := HL4.out; simp at this; omega, rfl⟩
                            · go_goals
                              first
                                | exact HRS11.out.step hpp (fun _ hb => List.mem_cons_of_mem _ hb) KeepR.set ((Below.refl _ _).setCell (p := ⟨rb, 2, none⟩) HRS11.out.rd.base _)
                                | exact (HRS11.out.step hpp (fun _ hb => List.mem_cons_of_mem _ hb) KeepR.set ((Below.refl _ _).setCell (p := ⟨rb, 2, none⟩) HRS11.out.rd.base _)).drewn
                            · rw [← HEQ.out, Nt.rest_eq (t := t1), HLS.out]
                              have e1 := HE1.out
                              have e3 := HE3.out
                              have e4 : (Nt.topIs 1 ((b :: R).map keyB) && Nt.hd (ksAt L next2) 5 [41]) = true := by rw [← inTop_key, ← isTk_hd, HB5.out, HR9.out]; exact HS9.out
                              simp only [e1, e3, Bool.false_eq_true, if_false, HPK.out, HCF.out, e4, if_true]
                              have hk9 := ksAt_tail (L := L) (n := next2) (q := 5) (s := [41]) (by rw [HR9.out]; exact h9)
                              rw [hk9]
                              rfl
end Go.Proofs.YtideicoifinnoaaGreatDoor

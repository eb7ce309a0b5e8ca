/- The page's Two and List: types that a call builds. What the laws of layer 4 share: bytes of a text, the tokens of a text and what stands behind it. -/
import Derived.Test.YtideicoifinnoaaGreatDoorNrJ
import Derived.Laws.ResultCell
import Derived.Test.YtideicoifinnoaaGreatDoorNwA
import Derived.Test.YtideicoifinnoaaGreatDoorNxA
import Derived.Test.YtideicoifinnoaaGreatDoorNtV
import Derived.Test.YtideicoifinnoaaGreatDoorLexQ
import Derived.Test.YtideicoifinnoaaGreatDoorTrC
import Derived.Test.YtideicoifinnoaaGreatDoorTrF
import Derived.Lib.ConvBytes
namespace Go.Proofs.YtideicoifinnoaaGreatDoor
open Go Go.RowKit
open Tp (T)

/-- A type that the call made. -/
def NewTy (t : T) (w : World) (e : Ending) (w' : World) : Prop := ∃ a cap, e = .returned (tv t a cap) ∧ TyAt (LT w'.heap.size) w' t a cap ∧ Below w.heap.size w w'
theorem made_ret {fn : Func} {w w1 w3 : World} {kk : Int} {l : List T} {n c : Nat} {act : Act} (hI : I64 kk) (hn : l.length = n) (hn2 : n ≤ 2) (hb : Below w.heap.size w w1)
    (hx : w3.heap[c]? = some (.cells #[.int .i64 kk, .int .i64 0, .slice (some ⟨w1.heap.size, 0, none⟩) n n] 24)) (h13 : Below w1.heap.size w1 w3) (hle : w.heap.size ≤ w1.heap.size)
    (hK : KidsAt (LT w3.heap.size) w3 l (some ⟨w1.heap.size, 0, none⟩)) {p : Tmp} (hr : fn.results = #[.cell p 24]) (hd : act.defers = []) (hp : act.tmps.getD p undef = .pointer (some ⟨c, 0, none⟩)) : bodyPost Tryz.prog fn (NewTy (.mk kk 0 l) w) .ret act w3 := by
  subst hn
  exact bodyPost_ret_by (v := tv (.mk kk 0 l) (some ⟨w1.heap.size, 0, none⟩) l.length) (results_cell_row (p := p) (ty := 24) hr _ _ c 24 _ (0, 0) _ hp hx Tryz.underlying24 rfl (by kernel_rfl)) hd ⟨_, _, rfl, ⟨hI, by show I64 0; unfold I64; omega, Nat.le_refl _, by unfold maxLen; show l.length ≤ _; omega, hK⟩, hb.trans (h13.mono hle)⟩
set_option maxRecDepth 100000 in
theorem list_any (t : T) (a : Option Addr) (cap : Nat) (w : World) (hty : TyAt (LT w.heap.size) w t a cap) :
    Calls Tryz.prog 62 #[tv t a cap] w (NewTy (.mk 8 0 [t]) w) := by
  obtain ⟨k0, hk0⟩ : ∃ k0, t.kind = k0 := ⟨_, rfl⟩
  obtain ⟨n0, hn0⟩ : ∃ n0, t.num = n0 := ⟨_, rfl⟩
  obtain ⟨m0, hm0⟩ : ∃ m0, t.kids.length = m0 := ⟨_, rfl⟩
  unfold tv
  rw [hk0, hn0, hm0]
  have HT := Lib.hid hty
  clear hty
  go_enter Tryz.func62, Tryz.ntmps62
  go_wp2_with fail
  obtain ⟨w1, hw1⟩ : ∃ w1, (w.alloc (.cells #[.int .i64 k0, .int .i64 n0, .slice a m0 cap] 24)).alloc (.cells #[.int .i64 8, .int .i64 0, .slice (some ⟨w.heap.size + 1 + 1, 0, none⟩) 1 1] 24) = w1 := ⟨_, rfl⟩
  have hx := box2 w #[.int .i64 k0, .int .i64 n0, .slice a m0 cap] #[.int .i64 8, .int .i64 0, .slice (some ⟨w.heap.size + 1 + 1, 0, none⟩) 1 1] 24 24
  have hb : Below w.heap.size w w1 := by rw [← hw1]; exact ((Below.refl _ _).alloc (Nat.le_refl _) _).alloc (by simp) _
  have hs : w1.heap.size = w.heap.size + 1 + 1 := by rw [← hw1]; simp
  rw [hw1] at hx ⊢
  rw [← hs] at hx ⊢
  have hal : Below w1.heap.size w1 (w1.alloc (.cells #[.int .i64 k0, .int .i64 n0, .slice a m0 cap] 24)) := (Below.refl _ _).alloc (Nat.le_refl _) _
  refine made_ret (c := w.heap.size + 1) (by unfold I64; omega) rfl (by simp) hb ((hal.block _ (by omega)).trans hx) hal (by omega) (row_one (HT.out.below hb (fun _ h => h) (fun b h => Nat.lt_of_lt_of_le h hb.size)) hk0 hn0 hm0) (p := 2) (by kernel_rfl) rfl rfl
set_option maxRecDepth 100000 in
theorem two_any (k : Int) (hk : I64 k) (t : T) (a : Option Addr) (cap : Nat) (u : T) (b : Option Addr) (cap' : Nat) (w : World) (hty : TyAt (LT w.heap.size) w t a cap) (hty' : TyAt (LT w.heap.size) w u b cap') :
    Calls Tryz.prog 50 #[.int .i64 k, tv t a cap, tv u b cap'] w (NewTy (.mk k 0 [t, u]) w) := by
  obtain ⟨k0, hk0⟩ : ∃ k0, t.kind = k0 := ⟨_, rfl⟩
  obtain ⟨n0, hn0⟩ : ∃ n0, t.num = n0 := ⟨_, rfl⟩
  obtain ⟨m0, hm0⟩ : ∃ m0, t.kids.length = m0 := ⟨_, rfl⟩
  obtain ⟨k9, hk9⟩ : ∃ k0, u.kind = k0 := ⟨_, rfl⟩
  obtain ⟨n9, hn9⟩ : ∃ n0, u.num = n0 := ⟨_, rfl⟩
  obtain ⟨m9, hm9⟩ : ∃ m0, u.kids.length = m0 := ⟨_, rfl⟩
  unfold tv
  rw [hk0, hn0, hm0, hk9, hn9, hm9]
  have HT := Lib.hid hty; have HU := Lib.hid hty'
  clear hty hty'
  go_enter Tryz.func50, Tryz.ntmps50
  go_wp2_with fail
  obtain ⟨w0, hw0⟩ : ∃ w0, (w.alloc (.cells #[.int .i64 k0, .int .i64 n0, .slice a m0 cap] 24)).alloc (.cells #[.int .i64 k9, .int .i64 n9, .slice b m9 cap'] 24) = w0 := ⟨_, rfl⟩
  have hb0 : Below w.heap.size w w0 := by rw [← hw0]; exact ((Below.refl _ _).alloc (Nat.le_refl _) _).alloc (by simp) _
  have hs0 : w0.heap.size = w.heap.size + 1 + 1 := by rw [← hw0]; simp
  rw [hw0, ← hs0]
  have hx := World.alloc_heap_new w0 (.cells #[.int .i64 k, .int .i64 0, .slice (some ⟨w0.heap.size + 1, 0, none⟩) 2 2] 24)
  have hb1 : Below w0.heap.size w0 (w0.alloc (.cells #[.int .i64 k, .int .i64 0, .slice (some ⟨w0.heap.size + 1, 0, none⟩) 2 2] 24)) := (Below.refl _ _).alloc (Nat.le_refl _) _
  have hs1 : (w0.alloc (.cells #[.int .i64 k, .int .i64 0, .slice (some ⟨w0.heap.size + 1, 0, none⟩) 2 2] 24)).heap.size = w0.heap.size + 1 := by simp
  generalize hw1 : w0.alloc (.cells #[.int .i64 k, .int .i64 0, .slice (some ⟨w0.heap.size + 1, 0, none⟩) 2 2] 24) = w1 at hx hb1 hs1 ⊢
  rw [← hs1] at hx
  have hb := hb0.trans (hb1.mono hb0.size)
  have hal : Below w1.heap.size w1 (w1.alloc (.cells #[.int .i64 k0, .int .i64 n0, .slice a m0 cap, .int .i64 k9, .int .i64 n9, .slice b m9 cap'] 24)) := (Below.refl _ _).alloc (Nat.le_refl _) _
  have up : ∀ {t : T} {a : Option Addr} {cap : Nat}, TyAt (LT w.heap.size) w t a cap → TyAt (LT w1.heap.size) w1 t a cap := fun h => h.below hb (fun _ h => h) (fun b h => Nat.lt_of_lt_of_le h hb.size)
  refine made_ret (c := w0.heap.size) hk rfl (by simp) hb ((hal.block _ (by omega)).trans hx) hal (by omega) (row_two (up HT.out) (up HU.out) hk0 hn0 hm0 hk9 hn9 hm9) (p := 6) (by kernel_rfl) rfl rfl
mutual
theorem Nt.right_np : ∀ t : T, Tp.right t = true → Tp.without 0 t = true
  | .mk k n l, h => by
    simp only [Tp.right, Bool.and_eq_true] at h
    simp only [Tp.without, Bool.and_eq_true, Bool.not_eq_true', decide_eq_false_iff_not]
    refine ⟨fun e => ?_, Nt.rights_np l h.2⟩
    subst e
    have := h.1
    simp [Tp.nodeRight, Tp.arity] at this
theorem Nt.rights_np : ∀ l : List T, Tp.rights l = true → Tp.withouts 0 l = true
  | [], _ => rfl
  | t :: r, h => by
    simp only [Tp.rights, Bool.and_eq_true] at h
    simp only [Tp.withouts, Bool.and_eq_true]
    exact ⟨Nt.right_np t h.1, Nt.rights_np r h.2⟩
end
theorem ty_later {w w' : World} {t : T} {a : Option Addr} {cap : Nat} (h : TyAt (LT w.heap.size) w t a cap) (hb : Below w.heap.size w w') : TyAt (LT w'.heap.size) w' t a cap := h.below hb (fun _ h => h) (fun _ h => Nat.lt_of_lt_of_le h hb.size)
/-- A type is written into a box that held none. -/
theorem put_box {w : World} {M : Nat} (hM : w.heap[M]? = some (.cells #[.int .i64 0, .int .i64 0, .slice none 0 0] 24 (0, 0))) {t : T} {a : Option Addr} {cap : Nat} (hp : Nt.Np t) (h : TyAt (LT w.heap.size) w t a cap) {w' : World}
    (hw : ((w.setCell ⟨M, 0, none⟩ (.int .i64 t.kind)).setCell ⟨M, 1, none⟩ (.int .i64 t.num)).setCell ⟨M, 2, none⟩ (.slice a t.kids.length cap) = w') :
    w'.heap[M]? = some (.cells #[.int .i64 t.kind, .int .i64 t.num, .slice a t.kids.length cap] 24 (0, 0)) ∧ TyAt (LT w'.heap.size) w' t a cap := by
  have hB := boxed hM (.int .i64 t.kind) (.int .i64 t.num) (.slice a t.kids.length cap)
  rw [hw] at hB
  refine ⟨hB.cells, ?_⟩
  have hc : ∀ o k, w.cell? ⟨M, o, none⟩ = some (.int .i64 k) → k = 0 := fun o k e => by
    rw [Lib.cell_of_heap hM] at e
    rcases o with _ | _ | _ | o
    · simp at e; exact e.symm
    · simp at e; exact e.symm
    · simp at e
    · simp at e
  have h2 : TyAt (fun x => LT w.heap.size x ∧ x ≠ M) w t a cap := by
    obtain ⟨k, n, l⟩ := t
    unfold Nt.Np at hp
    simp only [Tp.without, Bool.and_eq_true] at hp
    exact ⟨h.1, h.2.1, h.2.2.1, h.2.2.2.1, KidsAt.avoid hc l a hp.2 h.2.2.2.2⟩
  exact h2.moved (fun b o hb => by unfold World.cell?; rw [hB.rest b hb.2]) (fun b hb => by
    show b < w'.heap.size
    rw [hB.size]
    exact hb.1)
end Go.Proofs.YtideicoifinnoaaGreatDoor
namespace Go.Proofs.YtideicoifinnoaaGreatDoor
open Go Go.RowKit
open Tp (T)

theorem ba_ext2 {a b : ByteArray} (h : a.data.toList = b.data.toList) : a = b := by
  cases a; cases b; congr 1; exact Array.toList_inj.1 h
theorem conv_bytes (l : List UInt8) (w : World) : ∃ cap w', (convert 9 25 (.string ⟨l.toArray⟩)).run Tryz.prog w = .ok (.slice (some ⟨w.heap.size, 0, none⟩) l.length cap) w' ∧ Holds w' (some ⟨w.heap.size, 0, none⟩) l ∧ Below w.heap.size w w' := by
  have h := Lib.run_convert_string_bytes (P := Tryz.prog) w 9 25 5 ⟨l.toArray⟩ Tryz.underlying9 Tryz.underlying25 Tryz.underlying5
  rw [ba_size] at h
  refine ⟨_, _, h, ?_, Lib.bytesWorld_below w 5 ⟨l.toArray⟩⟩
  · refine Or.inr ⟨_, 0, rfl, by rw [Lib.bytesWorld_size]; omega, fun i hi => ?_⟩
    rw [Nat.zero_add, Lib.bytesWorld_cell w 5 ⟨l.toArray⟩ i (by rw [ba_size]; exact hi)]
    simp [List.getD, List.getElem?_eq_getElem hi]
theorem scanAll_len {l : List UInt8} {L : List Lx.Tok} (h : scanAll l = .good L) : L.length ≤ 100000 := by
  unfold scanAll at h
  split at h
  · cases h
  · have := Lx.scan_len _ l (Nat.lt_succ_self _) 0 L h
    omega
namespace Nt
theorem scans_end {s : List UInt8} {ks : List Tk} (h : Scans s [] ks) : ∃ L : List Lx.Tok, L.map keyT = ks ∧ Lx.scan s 0 = .good L := by
  obtain ⟨ts, h1, h2⟩ := h 0
  refine ⟨ts, h1, ?_⟩
  rw [List.append_nil] at h2
  rw [h2, show Lx.scan [] (0 + s.length) = .good [] from rfl]
  simp [Lx.Res.glue]
/-- What NoteBack puts behind a text. -/
def moreB : Nat → List UInt8
  | 0 => [] | 1 => [32, 41] | 2 => [32, 61] | 3 => [32, 44] | 4 => [32, 120] | 5 => [32, 53] | _ => [32, 105, 110]
def moreK : Nat → List Tk
  | 0 => [] | 1 => [(5, [41])] | 2 => [(5, [61])] | 3 => [(5, [44])] | 4 => [(1, [120])] | 5 => [(3, [])] | _ => [(2, [105, 110])]
theorem more_scans (j : Nat) (hj : j < 7) : Scans (moreB j) [] (moreK j) := by
  have h : j = 0 ∨ j = 1 ∨ j = 2 ∨ j = 3 ∨ j = 4 ∨ j = 5 ∨ j = 6 := by omega
  rcases h with rfl | rfl | rfl | rfl | rfl | rfl | rfl
  · exact fun o => ⟨[], rfl, by rw [Lx.Res.glue_nil]; rfl⟩
  · exact Scans.app (l := [32]) (m := [41]) (scans_blank _) (scans_first (b := ⟨5, 1, [41], 0⟩) (l := []) ⟨by decide, by decide⟩ (by kernel_rfl) rfl)
  · exact Scans.app (l := [32]) (m := [61]) (scans_blank _) (scans_first (b := ⟨5, 1, [61], 0⟩) (l := []) ⟨by decide, by decide⟩ (by kernel_rfl) rfl)
  · exact Scans.app (l := [32]) (m := [44]) (scans_blank _) (scans_first (b := ⟨5, 1, [44], 0⟩) (l := []) ⟨by decide, by decide⟩ (by kernel_rfl) rfl)
  · exact Scans.app (l := [32]) (m := [120]) (scans_blank _) (scans_first (b := ⟨1, 1, [120], 0⟩) (l := []) ⟨by decide, by decide⟩ (by kernel_rfl) rfl)
  · exact Scans.app (l := [32]) (m := [53]) (scans_blank _) (scans_first (b := ⟨3, 1, [], 5⟩) (l := []) ⟨by decide, by decide⟩ (by kernel_rfl) rfl)
  · exact Scans.app (l := [32]) (m := [105, 110]) (scans_blank _) (scans_first (b := ⟨2, 2, [105, 110], 0⟩) (l := [110]) ⟨by decide, by decide⟩ (by kernel_rfl) rfl)
theorem more_facts (j : Nat) (hj : j < 7) : StopB (moreB j) ∧ StopK (moreK j) ∧ (moreB j).length ≤ 3 ∧ (moreK j).length = (if (moreB j == []) = true then 0 else 1) := by
  have h : j = 0 ∨ j = 1 ∨ j = 2 ∨ j = 3 ∨ j = 4 ∨ j = 5 ∨ j = 6 := by omega
  rcases h with rfl | rfl | rfl | rfl | rfl | rfl | rfl
  · exact ⟨(fun c hc => by cases hc), ⟨rfl, rfl, rfl⟩, by decide, rfl⟩
  all_goals exact ⟨stopB_cons (by decide), ⟨by decide, by decide, by decide⟩, by decide, rfl⟩
theorem tk_ne (t : T) (hr : Tp.right t = true) (hc : Tp.without 6 t = true) : tk t ≠ [] := by
  cases view t hr with
  | leaf k n _ => obtain ⟨k', e1, x, e2, e3, e4⟩ := leaf_cases _ hr hc rfl; rw [e2]; simp
  | list x _ => rw [tk_one]; simp
  | two k x y hk _ _ => rw [tk_two]; simp
end Nt
/-- The tokens of a text, with what stands behind it. -/
theorem back_scan {t : T} (hr : Tp.right t = true) (hc : Tp.without 6 t = true) (hs : Tp.size t ≤ 600) {m : List UInt8} {r : List Nt.Tk} (hm : m.length ≤ 100) (hb : Nt.StopB m) (h : Nt.Scans m [] r) : ∃ L, scanAll (Nt.text t ++ m) = .good L ∧ L.map Nt.keyT = Nt.tk t ++ r := by
  have h1 := Nt.scans_text _ t (Nat.le_refl _) hr hc m hb
  obtain ⟨L, h2, h3⟩ := Nt.scans_end (Nt.Scans.app (l := Nt.text t) (m := m) (r := []) (by rw [List.append_nil]; exact h1) h)
  have h4 := Nt.text_small _ t (Nat.le_refl _) hr hc
  refine ⟨L, ?_, h2⟩
  unfold scanAll
  rw [if_neg (by rw [List.length_append]; omega), h3]
theorem ksAt_zero (L : List Lx.Tok) : ksAt L 0 = L.map Nt.keyT := by unfold ksAt; simp
theorem ksAt_app (A B : List Lx.Tok) : ksAt (A ++ B) A.length = B.map Nt.keyT := by unfold ksAt; simp
theorem ksAt_map {L : List Lx.Tok} {a b : List Nt.Tk} (h : L.map Nt.keyT = a ++ b) : ksAt L a.length = b := by
  unfold ksAt
  first
  | rw [← List.map_drop, h, List.drop_left]
  | rw [List.map_drop, h, List.drop_left]
/-- A type's tokens are read from their own place on. -/
theorem back_read {t : T} (hr : Tp.right t = true) (hc : Tp.without 6 t = true) {A L : List Lx.Tok} {r : List Nt.Tk} (h : L.map Nt.keyT = Nt.tk t ++ r) (hs : Nt.StopK r) : readOut (A ++ L) (A.length : Int) = (t, A.length + (Nt.tk t).length, 0) := by
  have hl : L.length = (Nt.tk t).length + r.length := by rw [← List.length_append, ← h, List.length_map]
  refine readOut_ok (by rw [List.length_append]; omega) (by rw [List.length_append]; omega) ?_
  rw [ksAt_app, h, Nt.read_back t hr hc r hs]
  have e : (A ++ L).map Nt.keyT = (A.map Nt.keyT ++ Nt.tk t) ++ r := by rw [List.map_append, h, List.append_assoc]
  have := ksAt_map e
  rw [List.length_append, List.length_map] at this
  rw [this]
end Go.Proofs.YtideicoifinnoaaGreatDoor

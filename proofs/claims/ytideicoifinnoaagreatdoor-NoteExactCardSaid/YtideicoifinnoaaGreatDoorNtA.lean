/- The pieces of a type's text in memory: what note.enclosed hands back. What note.pieces hands back. slices.Reverse over a row of pieces of the call's own. -/
import Derived.Test.YtideicoifinnoaaGreatDoorNtP
import Derived.Test.YtideicoifinnoaaGreatDoorTrB
import Derived.Test.YtideicoifinnoaaGreatDoorWalkA
import Derived.Deep.AppendLies
import Derived.Test.YtideicoifinnoaaGreatDoorTkA
import Derived.Test.YtideicoifinnoaaGreatDoorRev
import Derived.Sort.OwnSorted
namespace Go.Proofs.YtideicoifinnoaaGreatDoor
open Go Go.RowKit
open Tp (T)
open Nt (Pc)

def pcRow (p : Pc) : List Value := [.int .i64 p.t.kind, .int .i64 p.t.num, .slice p.a p.t.kids.length p.cap, .string ⟨p.s.toArray⟩]
def pcCells (l : List Pc) : List Value := l.flatMap pcRow
theorem pcCells_nil : pcCells [] = [] := rfl
theorem pcCells_cons (p : Pc) (l : List Pc) : pcCells (p :: l) = pcRow p ++ pcCells l := by simp [pcCells]
theorem pcCells_append (l m : List Pc) : pcCells (l ++ m) = pcCells l ++ pcCells m := by simp [pcCells]
theorem pcCells_len (l : List Pc) : (pcCells l).length = l.length * 4 := by
  induction l with
  | nil => rfl
  | cons p r ih => rw [pcCells_cons, List.length_append, ih]; simp [pcRow]; omega
theorem info_pc : (Tryz.prog.info? 47).map (fun i => (i.zero, i.size, i.bytes)) = some (some (.agg #[.int .i64 0, .int .i64 0, .slice none 0 0, .string ByteArray.empty]), 4, 56) := by kernel_rfl
/-- A row of pieces that a call has made. -/
def PcRow (B : Nat) (w : World) (v : Value) (l : List Pc) : Prop := w.ownsRow B 47 4 v l.length (pcCells l)
/-- What a call that makes a row of pieces hands back. -/
def PcPost (l : List Pc) (w : World) (e : Ending) (w' : World) : Prop := ∃ v, e = .returned v ∧ PcRow w.heap.size w' v l ∧ Below w.heap.size w w'

set_option maxHeartbeats 1000000 in
theorem enclosed_any (t : T) (a : Option Addr) (cap : Nat) (w : World) :
    Calls Tryz.prog 33 #[tv t a cap] w (PcPost (Nt.enc t a cap) w) := by
  obtain ⟨k, hk⟩ : ∃ k, t.kind = k := ⟨_, rfl⟩
  obtain ⟨n, hn⟩ : ∃ n, t.num = n := ⟨_, rfl⟩
  obtain ⟨m, hm⟩ : ∃ m, t.kids.length = m := ⟨_, rfl⟩
  unfold tv
  rw [hk, hn, hm]
  have HK := Lib.hid hk; have HN := Lib.hid hn; have HM := Lib.hid hm
  clear hk hn
  by_cases h0 : m = 0
  · have he : t.kids.isEmpty = true := by rw [List.isEmpty_iff]; exact List.length_eq_zero_iff.1 (hm.trans h0)
    have HE := Lib.hid he
    clear he hm
    subst h0
    go_enter Tryz.func33, Tryz.ntmps33
    go_wp2_with fail
    go_ret
    have := World.ownsRow_lit (base := w.heap.size) (e := 47) (size := 4) (w.alloc (.cells #[.int .i64 k, .int .i64 n, .slice a 0 cap] 24)) #[.int .i64 k, .int .i64 n, .slice a 0 cap, .string ⟨#[]⟩] 1 (by simp) (by unfold maxLen; omega) rfl
    rw [World.size_alloc] at this
    refine ⟨.slice (some ⟨w.heap.size + 1, 0, none⟩) 1 1, rfl, ?_, ?_⟩
    · unfold PcRow Nt.enc
      rw [HE.out, if_pos rfl]
      simp only [pcCells_cons, pcCells_nil, pcRow, HK.out, HN.out, HM.out, List.length_cons, List.length_nil, List.append_nil]
      exact this
    · exact ((Below.refl _ _).alloc (Nat.le_refl _) _).alloc (by simp) _
  · have he : t.kids.isEmpty = false := by
      rw [Bool.eq_false_iff]; intro h; rw [List.isEmpty_iff] at h; rw [h] at hm; exact h0 hm.symm
    have HE := Lib.hid he
    have h0' : ¬ (m : Int) = 0 := by omega
    clear he hm
    go_enter Tryz.func33, Tryz.ntmps33
    go_wp2_with fail
    go_ret
    have := World.ownsRow_lit (base := w.heap.size) (e := 47) (size := 4) (w.alloc (.cells #[.int .i64 k, .int .i64 n, .slice a m cap] 24)) #[.int .i64 0, .int .i64 0, .slice none 0 0, .string ⟨#[40]⟩, .int .i64 k, .int .i64 n, .slice a m cap, .string ⟨#[]⟩, .int .i64 0, .int .i64 0, .slice none 0 0, .string ⟨#[41]⟩] 3 (by simp) (by unfold maxLen; omega) rfl
    rw [World.size_alloc] at this
    refine ⟨.slice (some ⟨w.heap.size + 1, 0, none⟩) 3 3, rfl, ?_, ?_⟩
    · unfold PcRow Nt.enc
      rw [HE.out, if_neg (by simp)]
      simp only [pcCells_cons, pcCells_nil, pcRow, HK.out, HN.out, HM.out, List.length_cons, List.length_nil, List.append_nil]
      exact this
    · exact ((Below.refl _ _).alloc (Nat.le_refl _) _).alloc (by simp) _

theorem PcRow.later {B : Nat} {w w' : World} {v : Value} {l : List Pc} (h : PcRow B w v l) (hb : Below w.heap.size w w') : PcRow B w' v l :=
  own_same h fun g hg => hb.block g (h.lt g hg).2
theorem PcRow.alloc {B : Nat} {w : World} {v : Value} {l : List Pc} (h : PcRow B w v l) (o : Obj) : PcRow B (w.alloc o) v l := World.ownsRow.alloc h o
/-- A kid, as it lay when the call began. -/
theorem kid_of {n0 : Nat} {w0 w : World} {t : T} {a : Option Addr} {cap : Nat} (h : TyAt (LT n0) w0 t a cap) (hb : Below n0 w0 w) {k : Nat} (hk : k < t.kids.length) :
    ∃ b o xa xcap, a = some ⟨b, o, none⟩ ∧ b < n0 ∧ TyAt (LT n0) w0 t.kids[k] xa xcap ∧ w.cell? ⟨b, o + k * 3, none⟩ = some (.int .i64 t.kids[k].kind) ∧ w.cell? ⟨b, o + k * 3 + 1, none⟩ = some (.int .i64 t.kids[k].num) ∧
      w.cell? ⟨b, o + k * 3 + 2, none⟩ = some (.slice xa t.kids[k].kids.length xcap) := by
  obtain ⟨b, o, rfl, hbn, hN⟩ := h.2.2.2.2.first (by omega)
  obtain ⟨xa, xcap, h1, h2, h3, h4⟩ := (hN k hk).ty
  have hc : ∀ j, w.cell? ⟨b, j, none⟩ = w0.cell? ⟨b, j, none⟩ := fun j => hb.cell (p := ⟨b, j, none⟩) hbn
  exact ⟨b, o, xa, xcap, rfl, hbn, h1, by rw [hc]; exact h2, by rw [hc]; exact h3, by rw [hc]; exact h4⟩
theorem enc_ne (t : T) (a : Option Addr) (cap : Nat) : 0 < (Nt.enc t a cap).length := by unfold Nt.enc; split <;> simp
theorem enc_le (t : T) (a : Option Addr) (cap : Nat) : (Nt.enc t a cap).length ≤ 3 := by unfold Nt.enc; split <;> simp
theorem PcRow.shape {B : Nat} {w : World} {v : Value} {l : List Pc} (h : PcRow B w v l) (hl : 0 < l.length) : ∃ g cap, v = .slice (some ⟨g, 0, none⟩) l.length cap ∧ g < w.heap.size ∧ B ≤ g ∧ ∀ j u, (pcCells l)[j]? = some u → w.cell? ((⟨g, 0, none⟩ : Addr).add j) = some u := by
  have h' := h
  rcases h.2 with ⟨_, h2⟩ | ⟨g, cap, cur, h1, h2, h3, _⟩
  · omega
  · subst h1
    exact ⟨g, cap, rfl, (h'.lt g rfl).2, h2, h'.cells rfl⟩
theorem pcRow_one (p : Pc) : ∀ u ∈ pcRow p, u.oneCell' = true := by
  intro u hu
  simp only [pcRow, List.mem_cons, List.not_mem_nil, or_false] at hu
  rcases hu with rfl | rfl | rfl | rfl <;> rfl
theorem pcCells_one (l : List Pc) : ∀ u ∈ pcCells l, u.oneCell' = true := by
  intro u hu
  simp only [pcCells, List.mem_flatMap] at hu
  obtain ⟨p, _, hp⟩ := hu
  exact pcRow_one p u hp
end Go.Proofs.YtideicoifinnoaaGreatDoor
namespace Go.Proofs.YtideicoifinnoaaGreatDoor
open Go Go.RowKit
open Tp (T)
open Nt (Pc)

theorem below_grown {w w1 w2 : World} {B : Nat} {row : Option Nat} (hb : Below B w w1) (hg : w1.grownBy w2 row) (hB : B ≤ w1.heap.size) (hr : ∀ k, row = some k → B ≤ k) : Below B w w2 := hb.grown hg hB hr
theorem box_later {w w1 : World} {cs : Array Value} {T : TypeId} (hb : Below (w.alloc (.cells cs T)).heap.size (w.alloc (.cells cs T)) w1) (j : Nat) : w1.cell? ⟨w.heap.size, j, none⟩ = cs[j]? := by
  have h1 := (hb.block w.heap.size (by simp)).trans (World.alloc_heap_new w (.cells cs T))
  simp [World.cell?, h1]
/-- The news of one piece that was made last. -/
theorem news_one (w : World) (p : Pc) : ∀ j u, (pcRow p)[j]? = some u → (w.alloc (.cells #[.int .i64 p.t.kind, .int .i64 p.t.num, .slice p.a p.t.kids.length p.cap, .string ⟨p.s.toArray⟩] 47)).cell? ((⟨w.heap.size, 0, none⟩ : Addr).add j) = some u :=
  fun j u h => World.news_of_block (World.alloc_heap_new w (.cells #[.int .i64 p.t.kind, .int .i64 p.t.num, .slice p.a p.t.kids.length p.cap, .string ⟨p.s.toArray⟩] 47)) j u h

set_option maxRecDepth 100000 in
set_option maxHeartbeats 4000000 in
theorem pieces_one (n : Int) (x : T) (a : Option Addr) (cap n0 : Nat) (w0 w : World) (h : TyAt (LT n0) w0 (.mk 8 n [x]) a cap) (hb : Below n0 w0 w) (hn0 : n0 ≤ w.heap.size) :
    Calls Tryz.prog 18 #[tv (.mk 8 n [x]) a cap] w fun e w' => ∃ v xa xc, e = .returned v ∧ PcRow w.heap.size w' v (Nt.enc x xa xc ++ [Nt.txt Nt.sList]) ∧ TyAt (LT n0) w0 x xa xc ∧ Below w.heap.size w w' := by
  obtain ⟨b, o, xa, xc, rfl, hbn, hx, d0, d1, d2⟩ := kid_of h (w := w.alloc (.cells #[.int .i64 8, .int .i64 n, .slice a 1 cap] 24)) (hb.alloc hn0 _) (k := 0) (by show 0 < 1; omega)
  simp only [show (T.mk 8 n [x]).kids = [x] from rfl, List.getElem_cons_zero, Nat.zero_mul, Nat.add_zero] at hx d0 d1 d2
  obtain ⟨i0, hi, hz0, hz1, hz2⟩ := info_parts info_pc
  have HX := Lib.hid hx; have HB := Lib.hid hb; have HN0 := Lib.hid hn0
  have hcap := h.2.2.1
  have hlt : b < w.heap.size := Nat.lt_of_lt_of_le hbn hn0
  clear h hx hb hn0 hbn
  unfold tv
  simp only [show (T.mk 8 n [x]).kids = [x] from rfl, show (T.mk 8 n [x]).kind = 8 from rfl, show (T.mk 8 n [x]).num = n from rfl, List.length_cons, List.length_nil, Nat.zero_add] at hcap ⊢
  go_enter Tryz.func18, Tryz.ntmps18
  go_wp2_with fail
  refine (enclosed_any x xa xc _).mono ?_
  rintro e w1 ⟨v1, rfl, hrow, hb1⟩
  have HROW := Lib.hid hrow; have HB1 := Lib.hid hb1
  clear hrow hb1 d0 d1 d2
  have c0 := box_later HB1.out 0
  have c2 := box_later HB1.out 2
  have hsz : w.heap.size + 1 ≤ w1.heap.size := by have := HB1.out.size; simpa using this
  go_upto_region 8 with fail
  go_wp2_with (at_builtin; refine wpList_append_lies _ rfl (.tmp 25) (.tmp 27) 48 rfl w.heap.size 47 i0 (.agg #[.int .i64 0, .int .i64 0, .slice none 0 0, .string ByteArray.empty]) 4 56 Tryz.underlying48 hi hz0 hz1 hz2 rfl (by decide) v1 (Nt.enc x xa xc).length (pcCells (Nt.enc x xa xc)) rfl ?own ⟨w1.heap.size, 0, none⟩ 1 1 (pcRow (Nt.txt Nt.sList)) rfl rfl (news_one w1 (Nt.txt Nt.sList)) (pcRow_one _) (by decide) ?len ?bytes ?base (w1.heap.size + 1) ?size ?_)
  case own => exact World.ownsRow.alloc (own_base' HROW.out (by simp)) _
  case len => have := enc_le x xa xc; unfold maxLen; omega
  case bytes => have := enc_le x xa xc; omega
  case base => simp; omega
  case size => simp
  intro g c9 w2 hown hgr _ _
  go_wp2_with fail
  go_ret
  refine ⟨_, xa, xc, rfl, ?_, HX.out, ?_⟩
  · unfold PcRow
    rw [List.length_append, pcCells_append, pcCells_cons, pcCells_nil, List.append_nil]
    exact hown
  · exact (((Below.refl w.heap.size w).alloc (Nat.le_refl _) _).trans ((HB1.out.mono (by simp)).alloc (by omega) _)).grown hgr (by simp; omega) (fun k hk => ((HROW.out).lt k hk).1 |> Nat.le_trans (by simp))
set_option maxRecDepth 100000 in
set_option maxHeartbeats 4000000 in
theorem pieces_two (k : Int) (hk : k = 7 ∨ k = 9) (n : Int) (x y : T) (a : Option Addr) (cap n0 : Nat) (w0 w : World) (h : TyAt (LT n0) w0 (.mk k n [x, y]) a cap) (hb : Below n0 w0 w) (hn0 : n0 ≤ w.heap.size) :
    Calls Tryz.prog 18 #[tv (.mk k n [x, y]) a cap] w fun e w' => ∃ v xa xc ya yc, e = .returned v ∧ PcRow w.heap.size w' v (Nt.enc x xa xc ++ Nt.txt (Nt.sep k) :: Nt.enc y ya yc) ∧ TyAt (LT n0) w0 x xa xc ∧ TyAt (LT n0) w0 y ya yc ∧ Below w.heap.size w w' := by
  obtain ⟨b, o, xa, xc, rfl, hbn, hx, d0, d1, d2⟩ := kid_of h (w := w.alloc (.cells #[.int .i64 k, .int .i64 n, .slice a 2 cap] 24)) (hb.alloc hn0 _) (k := 0) (by show 0 < 2; omega)
  have hy := fun (w' : World) (hb' : Below n0 w0 w') => kid_of h (w := w') hb' (k := 1) (by show 1 < 2; omega)
  simp only [show (T.mk k n [x, y]).kids = [x, y] from rfl, List.getElem_cons_zero, List.getElem_cons_succ, Nat.zero_mul, Nat.one_mul, Nat.add_zero] at hx d0 d1 d2 hy
  obtain ⟨i0, hi, hz0, hz1, hz2⟩ := info_parts info_pc
  have HX := Lib.hid hx; have HB := Lib.hid hb; have HN0 := Lib.hid hn0; have HY := Lib.hid hy
  have hcap := h.2.2.1
  have hlt : b < w.heap.size := Nat.lt_of_lt_of_le hbn hn0
  clear h hx hb hn0 hbn hy
  unfold tv
  simp only [show (T.mk k n [x, y]).kids = [x, y] from rfl, show (T.mk k n [x, y]).kind = k from rfl, show (T.mk k n [x, y]).num = n from rfl, List.length_cons, List.length_nil, Nat.zero_add, Nat.reduceAdd] at hcap ⊢
  rcases hk with rfl | rfl
  all_goals
    go_enter Tryz.func18, Tryz.ntmps18
    go_wp2_with fail
    refine (enclosed_any x xa xc _).mono ?_
    rintro e w1 ⟨v1, rfl, hrow, hb1⟩
    have HROW := Lib.hid hrow; have HB1 := Lib.hid hb1
    clear hrow hb1 d0 d1 d2
    have c0 := box_later HB1.out 0
    have c2 := box_later HB1.out 2
    have hsz : w.heap.size + 1 ≤ w1.heap.size := by have := HB1.out.size; simpa using this
  · go_wp2_with (at_builtin; refine wpList_append_lies _ rfl (.tmp 13) (.tmp 15) 48 rfl w.heap.size 47 i0 (.agg #[.int .i64 0, .int .i64 0, .slice none 0 0, .string ByteArray.empty]) 4 56 Tryz.underlying48 hi hz0 hz1 hz2 rfl (by decide) v1 (Nt.enc x xa xc).length (pcCells (Nt.enc x xa xc)) rfl ?own ⟨w1.heap.size, 0, none⟩ 1 1 (pcRow (Nt.txt (Nt.sep 7))) rfl rfl (news_one w1 (Nt.txt (Nt.sep 7))) (pcRow_one _) (by decide) ?len ?bytes ?base (w1.heap.size + 1) ?size ?_)
    case own => exact World.ownsRow.alloc (own_base' HROW.out (by simp)) _
    case len => have := enc_le x xa xc; unfold maxLen; omega
    case bytes => have := enc_le x xa xc; omega
    case base => simp; omega
    case size => simp
    intro g c9 w2 hown hgr _ hg2
    have hb2 : Below (w.alloc (.cells #[.int .i64 7, .int .i64 n, .slice (some ⟨b, o, none⟩) 2 cap] 24)).heap.size (w.alloc (.cells #[.int .i64 7, .int .i64 n, .slice (some ⟨b, o, none⟩) 2 cap] 24)) w2 := (HB1.out.alloc (by simpa using hsz) _).grown hgr (by simp; omega) (fun k hk => (HROW.out.lt k hk).1)
    have HB2 := Lib.hid hb2; have HOWN := Lib.hid hown
    clear hb2 hgr hown c0 c2
    obtain ⟨b', o', ya, yc, e1, -, hy, d0, d1, d2⟩ := HY.out w2 ((HB.out.alloc HN0.out _).trans (HB2.out.mono (by have := HN0.out; simp; omega)))
    injection e1 with e1
    injection e1 with e1 e2 e3
    subst e1 e2
    have c0 := box_later HB2.out 0
    have c2 := box_later HB2.out 2
    have hsz2 : w.heap.size + 1 ≤ w2.heap.size := by have := HB2.out.size; simpa using this
    have HYT := Lib.hid hy
    clear hy e3
    go_wp2_with fail
    refine (enclosed_any y ya yc _).mono ?_
    rintro e w3 ⟨v2, rfl, hrow2, hb3⟩
    clear c0 c2 d0 d1 d2
    obtain ⟨g2, cap2, rfl, hg3, hg4, hc4⟩ := hrow2.shape (enc_ne y ya yc)
    have HB3 := Lib.hid hb3; have HC4 := Lib.hid hc4
    clear hb3 hrow2 hc4
    go_wp2_with (at_builtin; refine wpList_append_lies _ rfl (.tmp 29) (.tmp 34) 48 rfl w.heap.size 47 i0 (.agg #[.int .i64 0, .int .i64 0, .slice none 0 0, .string ByteArray.empty]) 4 56 Tryz.underlying48 hi hz0 hz1 hz2 rfl (by decide) (.slice (some ⟨g, 0, none⟩) ((Nt.enc x xa xc).length + 1) c9) ((Nt.enc x xa xc).length + 1) (pcCells (Nt.enc x xa xc) ++ pcRow (Nt.txt (Nt.sep 7))) rfl ?own ⟨g2, 0, none⟩ (Nt.enc y ya yc).length cap2 (pcCells (Nt.enc y ya yc)) rfl (pcCells_len _) HC4.out (pcCells_one _) (enc_ne y ya yc) ?len ?bytes ?base w3.heap.size rfl ?_)
    case own => exact own_same HOWN.out (fun q hq => HB3.out.block q (HOWN.out.lt q hq).2)
    case len => have := enc_le x xa xc; have := enc_le y ya yc; unfold maxLen; omega
    case bytes => have := enc_le x xa xc; have := enc_le y ya yc; omega
    case base => have := HB3.out.size; omega
    intro g9 c8 w4 hown4 hgr4 _ _
    go_wp2_with fail
    go_ret
    refine ⟨_, xa, xc, ya, yc, rfl, ?_, HX.out, HYT.out, ?_⟩
    · unfold PcRow
      rw [List.length_append, List.length_cons, pcCells_append, pcCells_cons, show (Nt.enc x xa xc).length + ((Nt.enc y ya yc).length + 1) = (Nt.enc x xa xc).length + 1 + (Nt.enc y ya yc).length from by omega]
      exact hown4
    · exact (((Below.refl w.heap.size w).alloc (Nat.le_refl _) _).trans ((HB2.out.mono (by simp)).trans (HB3.out.mono (by omega)))).grown hgr4 (by have := HB3.out.size; omega) (fun k hk => (HOWN.out.lt k hk).1)
  · go_wp2_with (at_builtin; refine wpList_append_lies _ rfl (.tmp 19) (.tmp 21) 48 rfl w.heap.size 47 i0 (.agg #[.int .i64 0, .int .i64 0, .slice none 0 0, .string ByteArray.empty]) 4 56 Tryz.underlying48 hi hz0 hz1 hz2 rfl (by decide) v1 (Nt.enc x xa xc).length (pcCells (Nt.enc x xa xc)) rfl ?own ⟨w1.heap.size, 0, none⟩ 1 1 (pcRow (Nt.txt (Nt.sep 9))) rfl rfl (news_one w1 (Nt.txt (Nt.sep 9))) (pcRow_one _) (by decide) ?len ?bytes ?base (w1.heap.size + 1) ?size ?_)
    case own => exact World.ownsRow.alloc (own_base' HROW.out (by simp)) _
    case len => have := enc_le x xa xc; unfold maxLen; omega
    case bytes => have := enc_le x xa xc; omega
    case base => simp; omega
    case size => simp
    intro g c9 w2 hown hgr _ hg2
    have hb2 : Below (w.alloc (.cells #[.int .i64 9, .int .i64 n, .slice (some ⟨b, o, none⟩) 2 cap] 24)).heap.size (w.alloc (.cells #[.int .i64 9, .int .i64 n, .slice (some ⟨b, o, none⟩) 2 cap] 24)) w2 := (HB1.out.alloc (by simpa using hsz) _).grown hgr (by simp; omega) (fun k hk => (HROW.out.lt k hk).1)
    have HB2 := Lib.hid hb2; have HOWN := Lib.hid hown
    clear hb2 hgr hown c0 c2
    obtain ⟨b', o', ya, yc, e1, -, hy, d0, d1, d2⟩ := HY.out w2 ((HB.out.alloc HN0.out _).trans (HB2.out.mono (by have := HN0.out; simp; omega)))
    injection e1 with e1
    injection e1 with e1 e2 e3
    subst e1 e2
    have c0 := box_later HB2.out 0
    have c2 := box_later HB2.out 2
    have hsz2 : w.heap.size + 1 ≤ w2.heap.size := by have := HB2.out.size; simpa using this
    have HYT := Lib.hid hy
    clear hy e3
    go_wp2_with fail
    refine (enclosed_any y ya yc _).mono ?_
    rintro e w3 ⟨v2, rfl, hrow2, hb3⟩
    clear c0 c2 d0 d1 d2
    obtain ⟨g2, cap2, rfl, hg3, hg4, hc4⟩ := hrow2.shape (enc_ne y ya yc)
    have HB3 := Lib.hid hb3; have HC4 := Lib.hid hc4
    clear hb3 hrow2 hc4
    go_wp2_with (at_builtin; refine wpList_append_lies _ rfl (.tmp 29) (.tmp 34) 48 rfl w.heap.size 47 i0 (.agg #[.int .i64 0, .int .i64 0, .slice none 0 0, .string ByteArray.empty]) 4 56 Tryz.underlying48 hi hz0 hz1 hz2 rfl (by decide) (.slice (some ⟨g, 0, none⟩) ((Nt.enc x xa xc).length + 1) c9) ((Nt.enc x xa xc).length + 1) (pcCells (Nt.enc x xa xc) ++ pcRow (Nt.txt (Nt.sep 9))) rfl ?own ⟨g2, 0, none⟩ (Nt.enc y ya yc).length cap2 (pcCells (Nt.enc y ya yc)) rfl (pcCells_len _) HC4.out (pcCells_one _) (enc_ne y ya yc) ?len ?bytes ?base w3.heap.size rfl ?_)
    case own => exact own_same HOWN.out (fun q hq => HB3.out.block q (HOWN.out.lt q hq).2)
    case len => have := enc_le x xa xc; have := enc_le y ya yc; unfold maxLen; omega
    case bytes => have := enc_le x xa xc; have := enc_le y ya yc; omega
    case base => have := HB3.out.size; omega
    intro g9 c8 w4 hown4 hgr4 _ _
    go_wp2_with fail
    go_ret
    refine ⟨_, xa, xc, ya, yc, rfl, ?_, HX.out, HYT.out, ?_⟩
    · unfold PcRow
      rw [List.length_append, List.length_cons, pcCells_append, pcCells_cons, show (Nt.enc x xa xc).length + ((Nt.enc y ya yc).length + 1) = (Nt.enc x xa xc).length + 1 + (Nt.enc y ya yc).length from by omega]
      exact hown4
    · exact (((Below.refl w.heap.size w).alloc (Nat.le_refl _) _).trans ((HB2.out.mono (by simp)).trans (HB3.out.mono (by omega)))).grown hgr4 (by have := HB3.out.size; omega) (fun k hk => (HOWN.out.lt k hk).1)
end Go.Proofs.YtideicoifinnoaaGreatDoor
namespace Go.Proofs.YtideicoifinnoaaGreatDoor
open Go Go.RowKit
open Tp (T)
open Nt (Pc)

instance : Inhabited Pc := ⟨Nt.txt []⟩
theorem flat_get : ∀ (l : List Pc) (t : Nat), t < l.length * 4 → (pcCells l)[t]? = (pcRow l.toArray[t / 4]!)[t % 4]?
  | [], t, h => by simp at h
  | p :: r, t, h => by
    rw [pcCells_cons]
    have h4 : (pcRow p).length = 4 := rfl
    by_cases ht : t < 4
    · rw [List.getElem?_append_left (by omega), Nat.div_eq_of_lt ht, Nat.mod_eq_of_lt ht]
      simp
    · obtain ⟨s, rfl⟩ : ∃ s, t = s + 4 := ⟨t - 4, by omega⟩
      rw [List.getElem?_append_right (by omega), h4, Nat.add_sub_cancel, flat_get r s (by simp at h; omega), Nat.add_mod_right, Nat.add_div_right s (by omega)]
      simp
theorem flat_eq (l : List Pc) : Sort.flatK pcRow 4 l.toArray = (pcCells l).toArray := by
  refine Array.ext (by simp [pcCells_len]) (fun t h1 h2 => ?_)
  have h : t < l.length * 4 := by simpa using h1
  have h3 := flat_get l t h
  have h4 : t < (pcCells l).length := by rw [pcCells_len]; exact h
  have h5 := Sort.get_flatK pcRow 4 l.toArray t (by simpa using h)
  rw [getElem!_pos _ t h1] at h5
  rw [h5]
  rw [List.getElem?_eq_getElem h4] at h3
  have h6 : t % 4 < (pcRow l.toArray[t / 4]!).length := Nat.mod_lt _ (by omega)
  rw [List.getElem?_eq_getElem h6] at h3
  injection h3 with h3
  rw [getElem!_pos _ (t % 4) h6, ← h3]
  simp
theorem holds_pc {B : Nat} {w : World} {g cap : Nat} {l : List Pc} (h : PcRow B w (.slice (some ⟨g, 0, none⟩) l.length cap) l) : Sort.HoldsK pcRow 4 w g 0 l.toArray := by
  unfold Sort.HoldsK
  rw [flat_eq]
  rcases h.2 with ⟨h1, _⟩ | ⟨g', cap', cur, h1, h2, h3, h4, h5, h6, h7⟩
  · cases h1
  · injection h1 with h1 _ h1'
    injection h1 with h1
    injection h1 with h1
    subst h1
    intro j hj
    have hj' : j < (pcCells l).length := by simpa using hj
    refine ⟨?_, by simp [World.frozen?, h3]⟩
    have h8 : (cur.toList.take (l.length * 4))[j]? = (pcCells l)[j]? := by rw [h7]
    rw [List.getElem?_take_of_lt (by rw [pcCells_len] at hj'; exact hj')] at h8
    simp only [World.cell?, h3, Nat.zero_add]
    simp only [Option.isSome_none, Bool.false_eq_true, if_false]
    rw [← Array.getElem?_toList, h8, List.getElem?_eq_getElem hj']
    simp [hj']
theorem agg_pc (w : World) : (isAgg 47).run Tryz.prog w = .ok true w := by kernel_rfl
theorem size_pc (w : World) : (Go.sizeOf 47).run Tryz.prog w = .ok 4 w := by kernel_rfl
theorem take_put (cur : Array Value) (F : List Value) (h : F.length ≤ cur.size) : (Sort.putCells id 0 F.toArray cur).toList.take F.length = F := by
  apply List.ext_getElem?
  intro j
  by_cases hj : j < F.length
  · rw [List.getElem?_take_of_lt hj, Array.getElem?_toList]
    simp [Sort.putCells, hj, show j < cur.size by omega]
  · rw [List.getElem?_take_eq_none (by omega), List.getElem?_eq_none (by omega)]
theorem reverse_any {B : Nat} {g cap : Nat} {l : List Pc} {w : World} (h : PcRow B w (.slice (some ⟨g, 0, none⟩) l.length cap) l) (hl : l.length ≤ 1000) :
    Calls Tryz.prog 19 #[.slice (some ⟨g, 0, none⟩) l.length cap] w fun e w' => e = .returned (.tuple #[]) ∧ PcRow B w' (.slice (some ⟨g, 0, none⟩) l.length cap) l.reverse ∧ w.grownBy w' (some g) := by
  have h0 := Tryz.rev_any 4 agg_pc size_pc Pc pcRow (fun _ => rfl) (fun x v hv => pcRow_one x v hv) g 0 cap l.toArray w (holds_pc h) (by simp; omega)
  refine Calls.mono (by simpa using h0) ?_
  rintro e w' ⟨rfl, n, rfl⟩
  have hg : g < w.heap.size := (h.lt g rfl).2
  refine ⟨rfl, ?_, ?_⟩
  · rcases h.2 with ⟨h1, _⟩ | ⟨g', cap', cur, h1, h2, h3, h4, h5, h6, h7⟩
    · cases h1
    · injection h1 with h1 _ h1'
      injection h1 with h1
      injection h1 with h1
      subst h1 h1'
      unfold Sort.putRowK
      rw [flat_eq]
      refine ⟨by rw [pcCells_len], .inr ⟨g, cap, Sort.putCells id 0 (pcCells l.reverse).toArray cur, by rw [List.length_reverse], h2, ?_, by rw [List.length_reverse]; exact h4, h5, by simp [Sort.putCells, h6], ?_⟩⟩
      · simp [Sort.putRow, Sort.mapBlock, Sort.ahead, Array.getElem?_modify, h3, Sort.onCells]
      · rw [← pcCells_len]
        exact take_put cur (pcCells l.reverse) (by rw [pcCells_len, List.length_reverse, h6]; omega)
  · refine ⟨rfl, rfl, rfl, by simp [Sort.putRowK, Sort.ahead], fun k hk hne => ?_⟩
    have : g ≠ k := fun e => hne (by rw [e])
    simp [Sort.putRowK, Sort.putRow, Sort.mapBlock, Sort.ahead, Array.getElem?_modify, this]
end Go.Proofs.YtideicoifinnoaaGreatDoor

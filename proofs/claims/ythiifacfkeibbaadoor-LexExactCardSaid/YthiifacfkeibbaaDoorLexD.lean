/- Walks: package lex's Scan. -/
import Derived.Test.YthiifacfkeibbaaDoorLexC
import Derived.IntWalk
namespace Go.Proofs.YthiifacfkeibbaaDoor
open Go Go.RowKit
open Go.Proofs

/-- The slice that begins here holds these bytes. -/
def Holds (w : World) (a : Option Addr) (l : List UInt8) : Prop :=
  l = [] ∨ ∃ b off, a = some ⟨b, off, none⟩ ∧ b < w.heap.size ∧ ∀ i (h : i < l.length), w.cell? ⟨b, off + i, none⟩ = some (.int .u8 (l[i].toNat : Int))
theorem Holds.below {w w' : World} {a : Option Addr} {l : List UInt8} (h : Holds w a l) {B : Nat} (hB : w.heap.size ≤ B) (hb : Below B w w') : Holds w' a l := by
  rcases h with h | ⟨b, off, h1, h2, h3⟩
  · exact Or.inl h
  · exact Or.inr ⟨b, off, h1, Nat.lt_of_lt_of_le h2 hb.size, fun i hi => by rw [hb.cell (p := ⟨b, off + i, none⟩) (Nat.lt_of_lt_of_le h2 hB)]; exact h3 i hi⟩
theorem conv_holds {w : World} {a : Option Addr} {l : List UInt8} (h : Holds w a l) (n cap : Nat) (hn : n = l.length) : (convert 22 9 (.slice a n cap)).run Tryd.prog w = .ok (.string ⟨l.toArray⟩) w := by
  subst hn
  rcases h with rfl | ⟨b, off, rfl, _, h3⟩
  · cases a with
    | none => exact Lib.run_convert_nil_bytes w _ _ 5 cap Tryd.underlying22 Tryd.underlying5 Tryd.underlying9
    | some ad => exact run_convert_bytes_back w _ _ 5 ad cap [] Tryd.underlying22 Tryd.underlying5 Tryd.underlying9 (fun j hj => by simp at hj)
  · refine run_convert_bytes_back w _ _ 5 _ cap l Tryd.underlying22 Tryd.underlying5 Tryd.underlying9 (fun j hj => ?_)
    rw [← h3 j hj]
    congr 1
    unfold Addr.add
    split <;> simp_all

def tokRow (t : Lx.Tok) : List Value := [.int .i64 (t.kind : Int), .int .i64 (t.frm : Int), .int .i64 (t.to_ : Int), .string ⟨t.s.toArray⟩, .int .i64 t.n]
def tokCells (ts : List Lx.Tok) : List Value := ts.flatMap tokRow
theorem tokCells_len (ts : List Lx.Tok) : (tokCells ts).length = ts.length * 5 := by
  induction ts with
  | nil => rfl
  | cons t r ih =>
    have e : tokCells (t :: r) = tokRow t ++ tokCells r := by simp [tokCells]
    rw [e, List.length_append, ih]; simp [tokRow]; omega
theorem tokCells_snoc (ts : List Lx.Tok) (t : Lx.Tok) : tokCells (ts ++ [t]) = tokCells ts ++ tokRow t := by simp [tokCells]
theorem info_tok : (Tryd.prog.info? 32).map (fun i => (i.zero, i.size, i.bytes)) = some (some (.agg #[.int .i64 0, .int .i64 0, .int .i64 0, .string ByteArray.empty, .int .i64 0]), 5, 48) := by kernel_rfl

theorem own_below {w w1 : World} {B : Nat} {e : TypeId} {sz : Nat} {v : Value} {n : Nat} {xs : List Value} (h : w.ownsRow B e sz v n xs) (hb : Below w.heap.size w w1) : w1.ownsRow B e sz v n xs :=
  h.kept (row := none) ⟨hb.os, hb.tape, hb.output, hb.size, fun i hi _ => hb.block i hi⟩ (by cases hv : v.ownBlock with
    | none => exact Or.inl rfl
    | some g => right; simp)
theorem cells5 (w : World) (g : Nat) (hg : g = w.heap.size) (a b c d e : Value) (t : TypeId) : ∀ j u, [a, b, c, d, e][j]? = some u → (w.alloc (.cells #[a, b, c, d, e] t)).cell? ((⟨g, 0, none⟩ : Addr).add j) = some u := by
  subst hg
  intro j u hj
  match j, hj with
  | 0, hj => simp at hj; subst hj; simp [Addr.add]
  | 1, hj => simp at hj; subst hj; simp [Addr.add]
  | 2, hj => simp at hj; subst hj; simp [Addr.add]
  | 3, hj => simp at hj; subst hj; simp [Addr.add]
  | 4, hj => simp at hj; subst hj; simp [Addr.add]
  | j + 5, hj => simp at hj
theorem own_shape' {w : World} {B sz : Nat} {e : TypeId} {v : Value} {n : Nat} {xs : List Value} (h : w.ownsRow B e sz v n xs) : ∃ a cap, v = .slice a n cap := by
  rcases h.2 with ⟨rfl, rfl⟩ | ⟨g, cap, cur, rfl, _⟩
  · exact ⟨none, 0, rfl⟩
  · exact ⟨_, cap, rfl⟩

theorem skip_drop (l : List UInt8) : Lx.skip (l.drop (Lx.skip l)) = 0 := by
  cases h : l.drop (Lx.skip l) with
  | nil => rfl
  | cons c r =>
    obtain ⟨h1, h2⟩ := Lx.skipB_stop l false c r h
    exact Lx.skip_none h1 h2
def scanAll (l : List UInt8) : Lx.Res := if 16384 < l.length then .bad 16384 else Lx.scan l 0
def ScanPost (R : Lx.Res) (w : World) (e : Ending) (w' : World) : Prop :=
  match R with
  | .bad a => e = .returned (.tuple #[.slice none 0 0, .int .i64 (a : Int), .int .i64 3]) ∧ Below w.heap.size w w'
  | .good ts => ∃ v, e = .returned (.tuple #[v, .int .i64 0, .int .i64 0]) ∧ w'.ownsRow w.heap.size 32 5 v ts.length (tokCells ts) ∧ Below w.heap.size w w'

theorem below_more {B : Nat} {a w : World} (h : Below B a w) (n : Nat) : Below B a (w.drewN n) := ⟨h.os, h.tape, h.output, h.size, h.block⟩
theorem own_drewN {w : World} {B : Nat} {e : TypeId} {sz : Nat} {v : Value} {n : Nat} {xs : List Value} (h : w.ownsRow B e sz v n xs) (k : Nat) : (w.drewN k).ownsRow B e sz v n xs := h
set_option maxHeartbeats 400000 in
theorem scan_big (a : Option Addr) (n cap : Nat) (h : 16384 < n) (w : World) :
    Calls Tryd.prog 8 #[.slice a n cap] w (ScanPost (.bad 16384) w) := by
  go_enter Tryd.func8, Tryd.ntmps8
  go_wp2_with fail
  go_ret3
  exact ⟨rfl, Below.refl _ _⟩

set_option maxRecDepth 100000 in
set_option maxHeartbeats 4000000 in
theorem scan_small (a : Option Addr) (cap : Nat) (l : List UInt8) (h : l.length ≤ 16384) (w : World) (hh : Holds w a l) (hg : Good w) :
    Calls Tryd.prog 8 #[.slice a l.length cap] w (ScanPost (Lx.scan l 0) w) := by
  obtain ⟨i0, hi, hz0, hz1, hz2⟩ := info_parts info_tok
  have hcv := conv_holds hh l.length cap rfl
  have HG := Lib.hid hg; clear hg
  obtain ⟨R, hR⟩ : ∃ R, R = Lx.scan l 0 := ⟨_, rfl⟩
  rw [← hR]
  have HR := Lib.hid hR; clear hR
  have hsk := Lx.skip_le l
  go_enter Tryd.func8, Tryd.ntmps8
  go_wp2_with (go_at_call 17; refine (blanks_any l (by omega) _).mono ?_; rintro e w' ⟨rfl, rfl⟩)
  go_loopw [2, 6] (fun v i wr => ∃ (ts : List Lx.Tok) (off : Nat), i = .int .i64 off ∧ off ≤ l.length ∧ ts.length ≤ off ∧ R = Lx.Res.glue ts (Lx.scan (l.drop off) off) ∧ Lx.skip (l.drop off) = 0 ∧ wr.ownsRow w.heap.size 32 5 v ts.length (tokCells ts) ∧ Below w.heap.size w wr) (fun _ i _ => l.length - (intOf i).toNat)
  case atStart => exact ⟨[], Lx.skip l, rfl, hsk, by simp, by rw [HR.out, Lx.scan_skip, Lx.Res.glue_nil, Nat.zero_add], skip_drop l, World.ownsRow_nil _ _ _ _, Below.refl _ _⟩
  case round =>
    obtain ⟨ts, off, rfl, hoff, htl, hrel, hs0, hown, hb⟩ := hrel
    have HREL := Lib.hid hrel; have HS0 := Lib.hid hs0
    clear hrel hs0
    have hbs := hb.size
    have HGr := Lib.hid (HG.out.below hb)
    have hsl := sl_from l off hoff
    by_cases hlt : off < l.length
    · cases hd : l.drop off with
      | nil => rw [List.drop_eq_nil_iff] at hd; omega
      | cons c r =>
        have hrl : (c :: r).length = l.length - off := by rw [← hd]; simp
        rw [hd] at hsl
        have hf := first_any c r (by simp at hrl; omega)
        have HF := Lib.hid hf; have HD := Lib.hid hd
        clear hf hd
        cases ho : Lx.first (c :: r) with
        | none =>
          have hbad : R = .bad off := by rw [HREL.out, HD.out, Lx.scan_bad (l := c :: r) off (by rw [← HD.out, HS0.out]; rfl) ho, ← HD.out, HS0.out]; rfl
          have hf := HF.out
          rw [ho] at hf
          have HF2 := Lib.hid hf; have HB := Lib.hid hbad
          clear ho hf hbad HF
          go_wp2_with (go_at_call 18; refine (HF2.out _ HGr.out).mono ?_; rintro e w1 ⟨q, k, t, s, n, hq, rfl, hb1⟩; obtain rfl : q = false := hq)
          go_ret3
          rw [HB.out]
          exact ⟨rfl, (hb.trans (hb1.mono hbs)).alloc (Nat.le_trans hbs hb1.size) _⟩
        | some b =>
          have hbl := Lx.first_len ho
          have hstep : R = Lx.Res.glue (ts ++ [b.at_ off]) (Lx.scan ((c :: r).drop b.len) (off + b.len)) := by
            rw [HREL.out, HD.out, Lx.scan_step (l := c :: r) off (by rw [← HD.out, HS0.out]; rfl) ho, Lx.Res.glue_glue, ← HD.out, HS0.out]; rfl
          have hdd : (c :: r).drop b.len = l.drop (off + b.len) := by rw [← HD.out, List.drop_drop]
          rw [hdd] at hstep
          have hf := HF.out
          rw [ho] at hf
          rw [hrl] at hbl
          obtain ⟨hb1', hb2'⟩ := hbl
          obtain ⟨va, vcap, rfl⟩ := own_shape' hown
          have hsl2 := sl_from l (off + b.len) (by omega)
          have hbk : ∀ w : World, Calls Tryd.prog 17 #[.string ⟨(l.drop (off + b.len)).toArray⟩] w fun e w' => e = .returned (.int .i64 (Lx.skip (l.drop (off + b.len)) : Int)) ∧ w' = w :=
            fun w => (blanks_any (l.drop (off + b.len)) (by simp; omega) w).mono fun e w' h => ⟨h.1, h.2.symm⟩
          have hskl := Lx.skip_le (l.drop (off + b.len))
          rw [List.length_drop] at hskl
          have hsk2 := skip_drop (l.drop (off + b.len))
          rw [List.drop_drop] at hsk2
          rw [Lx.scan_skip, List.drop_drop] at hstep
          obtain ⟨m, hm⟩ : ∃ m, m = Lx.skip (l.drop (off + b.len)) := ⟨_, rfl⟩
          rw [← hm] at hskl hsk2 hstep hbk
          have HF2 := Lib.hid hf; have HST := Lib.hid hstep; have HBK := Lib.hid hbk; have HSK2 := Lib.hid hsk2
          clear ho hf hstep HF hdd hrl hbk hsk2 hm
          rw [Int.natCast_add] at hsl2
          go_wp2_with (first | (go_at_call 18; refine (HF2.out _ HGr.out).mono ?_; rintro e w1 ⟨q, k, t, s, n, hq, rfl, hb1⟩; obtain ⟨rfl, rfl, rfl, rfl, rfl⟩ := hq; obtain ⟨hc1, hf1⟩ := bcell hb1) | (at_builtin; refine wpList_append_own _ rfl _ _ 23 rfl w.heap.size 32 i0 (.agg #[.int .i64 0, .int .i64 0, .int .i64 0, .string ByteArray.empty, .int .i64 0]) 5 48 Tryd.underlying23 hi hz0 hz1 hz2 rfl (by decide) _ _ _ rfl (((own_below hown hb1).alloc _).alloc _) ⟨w1.heap.size + 1, 0, none⟩ 1 1 (tokRow (b.at_ off)) rfl rfl ?c1 ?c2 ?c3 ?c4 ?c5 ?_))
          case c1 => exact cells5 (w1.alloc _) _ (by simp) _ _ _ _ _ _
          case c2 => intro u hu; simp [tokRow] at hu; rcases hu with rfl | rfl | rfl | rfl | rfl <;> rfl
          case c3 => unfold maxLen; omega
          case c4 => omega
          case c5 => have := hb1.size; simp; omega
          intro v' w2 hown' hg2 _
          have hs1 := hb1.size
          have hne : some w1.heap.size ≠ (Value.slice va ts.length vcap).ownBlock := fun e => by have := (hown.lt _ e.symm).2; omega
          have hcc : w2.cell? ⟨w1.heap.size, 2, none⟩ = some (.int .i64 ((off : Int) + (b.len : Int))) := by
            rw [World.cell?_of_block (hg2.block w1.heap.size (by simp; omega) hne)]; simp
          have hb2 : Below w.heap.size w w2 := (((hb.trans (hb1.mono hbs)).alloc (Nat.le_trans hbs hs1) _).alloc (by simp; omega) _).grown hg2 (by simp; omega) (fun k hk => (hown.lt k hk).1)
          have hwr : IntKind.i64.wrap ((off : Int) + (b.len : Int) + (m : Int)) = (off : Int) + (b.len : Int) + (m : Int) := IntWalk.i64_in _ (by omega)
          rw [show ts.length + 1 = (ts ++ [b.at_ off]).length from by simp, ← tokCells_snoc] at hown'
          have HOWN := Lib.hid hown'; have HB2 := Lib.hid hb2
          clear hown' hg2 hne hc1 hf1 hb2 hs1
          go_wp2_with fail
          go_quiet ((go_at_call 17; exact Calls.quiet_of_same (HBK.out _)))
          go_roundw
          case rel => (repeat apply Exists.intro); exact ⟨⟨ts ++ [b.at_ off], off + b.len + m, by go_num, by omega, by simp; omega, HST.out, HSK2.out, own_drewN HOWN.out _, below_more HB2.out _⟩, rfl⟩
          case measure => simp [intOf]; omega
    · have hfin : R = .good ts := by
        rw [HREL.out, List.drop_of_length_le (by omega)]; simp [Lx.scan, Lx.scanF, Lx.skip, Lx.skipB, Lx.Res.glue]
      obtain ⟨va, vcap, rfl⟩ := own_shape' hown
      have HF := Lib.hid hfin; clear hfin
      go_wp2_with fail
      go_ret3
      rw [HF.out]
      exact ⟨_, rfl, hown, hb⟩
theorem scan_any (a : Option Addr) (cap : Nat) (l : List UInt8) (w : World) (hh : Holds w a l) (hg : Good w) :
    Calls Tryd.prog 8 #[.slice a l.length cap] w (ScanPost (scanAll l) w) := by
  unfold scanAll
  split
  · rename_i h; exact scan_big a _ cap h w
  · rename_i h; exact scan_small a cap l (by omega) w hh hg
end Go.Proofs.YthiifacfkeibbaaDoor

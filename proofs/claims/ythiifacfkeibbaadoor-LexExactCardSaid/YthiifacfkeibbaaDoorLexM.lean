/- Pieces of slices of bytes; bytes appended to a row of the call's own. -/
import Derived.Test.YthiifacfkeibbaaDoorLexK
import Derived.Test.YthiifacfkeibbaaDoorLexQ
import Derived.Laws.AppendOwnNone
namespace Go.Proofs.YthiifacfkeibbaaDoor
open Go Go.RowKit
open Go.Proofs

theorem elem_bytes : Tryd.prog.underlying 22 = some (.slice (Tryd.prog.elem 22)) := by kernel_rfl
theorem size_byte (w : World) : (sizeOf (Tryd.prog.elem 22)).run Tryd.prog w = .ok 1 w := by kernel_rfl
/-- A piece of a slice of bytes. -/
theorem sub_bytes {w : World} {a : Option Addr} {l : List UInt8} (cap : Nat) (hcap : l.length ≤ cap) (hh : Holds w a l) (x y : Nat) (hxy : x ≤ y) (hy : y ≤ l.length) :
    ∃ a', (∀ w' : World, (Instr.slice 22 (.slice a l.length cap) (some (.int .i64 (x : Int))) (some (.int .i64 (y : Int))) none).run Tryd.prog w' = .ok (.slice a' (y - x) (cap - x)) w') ∧ Holds w a' ((l.drop x).take (y - x)) := by
  refine ⟨if cap = x then a else a.map (·.add (x * 1)), fun w' => ?_, ?_⟩
  · rw [run_slice_lh w' _ a l.length cap elem_bytes .i64 .i64 (x : Int) (y : Int) (by omega) (by omega) (by omega), size_byte]
    simp [Result.andThen, sliced]
  · rcases hh with rfl | ⟨b, off, rfl, h2, h3⟩
    · exact Or.inl (by simp)
    · by_cases he : (l.drop x).take (y - x) = []
      · exact Or.inl he
      · have hlt : x < y := by
          rcases Nat.lt_or_ge x y with h | h
          · exact h
          · exact absurd (by rw [show y - x = 0 from by omega]; rfl) he
        rw [if_neg (by omega)]
        refine Or.inr ⟨b, off + x, ?_, h2, fun i hi => ?_⟩
        · simp [Addr.add] <;> omega
        · have hi2 : i < y - x ∧ x + i < l.length := by
            rw [List.length_take, List.length_drop] at hi; omega
          have := h3 (x + i) hi2.2
          rw [show off + x + i = off + (x + i) from by omega, this]
          simp
theorem sub_to {w : World} {a : Option Addr} {l : List UInt8} (cap : Nat) (hcap : l.length ≤ cap) (hh : Holds w a l) (y : Nat) (hy : y ≤ l.length) :
    ∃ a', (∀ w' : World, (Instr.slice 22 (.slice a l.length cap) none (some (.int .i64 (y : Int))) none).run Tryd.prog w' = .ok (.slice a' y cap) w') ∧ Holds w a' (l.take y) := by
  refine ⟨if cap = 0 then a else a.map (·.add (0 * 1)), fun w' => ?_, ?_⟩
  · rw [run_slice_h w' _ a l.length cap elem_bytes .i64 (y : Int) (by omega) (by omega), size_byte]
    simp [Result.andThen, sliced]
  · rcases hh with rfl | ⟨b, off, rfl, h2, h3⟩
    · exact Or.inl (by simp)
    · refine Or.inr ⟨b, off, ?_, h2, fun i hi => ?_⟩
      · split <;> simp [Addr.add]
      · have hi2 : i < y ∧ i < l.length := by rw [List.length_take] at hi; omega
        rw [h3 i hi2.2]
        simp
theorem scanAll_small {l : List UInt8} (h : l.length ≤ 16384) : scanAll l = Lx.scan l 0 := by unfold scanAll; rw [if_neg (by omega)]


/-- 'append(v, x...)': v a row of the call's own, x any slice of bytes. -/
theorem append_bytes {w : World} {ops : Array Oper} {rest : List Oper} {o : Oper} {act : Act} {Q : Exit → Act → World → Prop} (hgd : o.guard = none) (s x : Operand)
    (ho : o.op = .call { callee := .builtin .append, args := #[s, x], argTypes := #[22, 22] })
    (base : Nat) (v : Value) (k : Nat) (xs l : List UInt8) (hs : act.eval s = v) (hown : w.ownsRow base 5 1 v k (Lib.byteCells xs)) (hk : k = xs.length)
    (a : Option Addr) (n c : Nat) (hn : n = l.length) (hc : a = none → c = 0) (hx : act.eval x = .slice a n c) (hh : Holds w a l) (hlen : xs.length + l.length ≤ 1000000) (hbase : base ≤ w.heap.size)
    (h : ∀ v' w', w'.ownsRow base 5 1 v' (xs ++ l).length (Lib.byteCells (xs ++ l)) → Below base w w' → wpList Tryd.prog ops Q rest (act.put o.dst v') w') : wpList Tryd.prog ops Q (o :: rest) act w := by
  obtain ⟨i0, hi, hz0, hz1, hz2⟩ := info_parts info_u8
  subst hk hn
  have hcat : Lib.byteCells (xs ++ l) = Lib.byteCells xs ++ Lib.byteCells l := by unfold Lib.byteCells; rw [List.map_append]
  cases a with
  | none =>
    have hl : l = [] := by
      rcases hh with h0 | ⟨b, off, h1, _⟩
      · exact h0
      · cases h1
    subst hl
    rw [hc rfl] at hx
    refine wpList_append_own_none hgd s x 22 ho base 5 i0 1 Tryd.underlying22 hi v xs.length (Lib.byteCells xs) hs hown hx ?_
    exact h v w (by rw [List.append_nil]; exact hown) (Below.refl _ _)
  | some ad =>
    refine wpList_append_own w hgd s x 22 ho base 5 i0 (.int .u8 0) 1 1 Tryd.underlying22 hi hz0 hz1 hz2 rfl (by decide) v xs.length (Lib.byteCells xs) hs hown ad l.length c (Lib.byteCells l) hx (by simp [Lib.byteCells]) ?_ ?_ (by unfold maxLen; omega) (by omega) hbase ?_
    · intro j u hu
      have hj : j < l.length := by
        have := (List.getElem?_eq_some_iff.1 hu).1
        simpa [Lib.byteCells] using this
      rcases hh with h0 | ⟨b, off, h1, _, h3⟩
      · subst h0; simp at hj
      · injection h1 with h1
        subst h1
        have e : ((⟨b, off, none⟩ : Addr).add j) = ⟨b, off + j, none⟩ := by unfold Addr.add; split <;> simp_all
        rw [e, h3 j hj, ← hu]
        simp [Lib.byteCells, hj]
    · intro u hu
      simp only [Lib.byteCells, List.mem_map] at hu
      obtain ⟨y, _, rfl⟩ := hu; rfl
    · intro v' w' h1 h2 _
      refine h v' w' (by rw [hcat, List.length_append]; exact h1) ((Below.refl _ _).grown h2 hbase (fun g hg => (hown.lt g hg).1))
theorem holds_own {w : World} {B : Nat} {a : Option Addr} {n c : Nat} {l : List UInt8} (h : w.ownsRow B 5 1 (.slice a n c) l.length (Lib.byteCells l)) : n = l.length ∧ Holds w a l := by
  obtain ⟨a', cap', e⟩ := own_shape' h
  injection e with e1 e2 e3
  refine ⟨e2, ?_⟩
  by_cases h0 : l = []
  · exact Or.inl h0
  · obtain ⟨g, cap2, hv, hlt, hlt2⟩ := h.form (List.length_pos_iff.2 h0)
    injection hv with hv1 hv2 hv3
    subst hv1
    refine Or.inr ⟨g, 0, rfl, hlt2, fun i hi => ?_⟩
    have hc := h.cells (g := g) rfl i (.int .u8 (l[i].toNat : Int)) (by simp [Lib.byteCells, hi])
    rw [← hc]; congr 1; unfold Addr.add; split <;> simp_all
theorem scan_to : ∀ (n : Nat) (l : List UInt8), l.length < n → ∀ (o : Nat) (ts : List Lx.Tok), Lx.scan l o = .good ts → ∀ t ∈ ts, t.frm ≤ o + l.length ∧ t.to_ ≤ o + l.length
  | 0, l, h, _, _, _ => absurd h (by omega)
  | n + 1, l, hn, o, ts, h => by
    cases ts with
    | nil => intro t ht; cases ht
    | cons t rest =>
      obtain ⟨k, m, h1, h2, h3, h4, _, _, _, _, h5⟩ := Lx.span_step h
      have ih := scan_to n (l.drop (k + m)) (by rw [List.length_drop]; omega) _ _ h5
      intro x hx
      rcases List.mem_cons.1 hx with rfl | hx
      · omega
      · have := ih x hx
        rw [List.length_drop] at this; omega
theorem own_cap {w : World} {B sz : Nat} {e : TypeId} {a : Option Addr} {n c : Nat} {xs : List Value} (h : w.ownsRow B e sz (.slice a n c) n xs) : n ≤ c := by
  rcases h.2 with ⟨hv, hn⟩ | ⟨g, cap, cur, hv, _, _, hc, _⟩
  · omega
  · injection hv with h1 h2 h3; omega
theorem elem_toks : Tryd.prog.underlying 23 = some (.slice (Tryd.prog.elem 23)) := by kernel_rfl
theorem size_tok (w : World) : (sizeOf (Tryd.prog.elem 23)).run Tryd.prog w = .ok 5 w := by kernel_rfl
/-- The first tokens of a row. -/
theorem sub_toks {w : World} {a : Option Addr} {m r : List Lx.Tok} (n cap : Nat) (hcap : m.length ≤ cap) (hh : ToksAt w a (m ++ r)) :
    ∃ a', (∀ w' : World, (Instr.slice 23 (.slice a n cap) none (some (.int .i64 (m.length : Int))) none).run Tryd.prog w' = .ok (.slice a' m.length cap) w') ∧ ToksAt w a' m := by
  refine ⟨if cap = 0 then a else a.map (·.add (0 * 5)), fun w' => ?_, ?_⟩
  · rw [run_slice_h w' _ a n cap elem_toks .i64 (m.length : Int) (by omega) (by omega), size_tok]
    simp [Result.andThen, sliced]
  · rcases hh with h0 | ⟨g, rfl, h2, h3⟩
    · exact Or.inl (List.append_eq_nil_iff.1 h0).1
    · refine Or.inr ⟨g, ?_, h2, fun i hi => ?_⟩
      · split <;> simp [Addr.add]
      · have := h3 i (by simp; omega)
        rw [List.getElem_append_left hi] at this; exact this
theorem scan_lt : ∀ (n : Nat) (l : List UInt8), l.length < n → ∀ (o : Nat) (ts : List Lx.Tok), Lx.scan l o = .good ts → ∀ t ∈ ts, t.frm < t.to_
  | 0, l, h, _, _, _ => absurd h (by omega)
  | n + 1, l, hn, o, ts, h => by
    cases ts with
    | nil => intro t ht; cases ht
    | cons t rest =>
      obtain ⟨k, m, h1, h2, h3, h4, _, _, _, _, h5⟩ := Lx.span_step h
      have ih := scan_lt n (l.drop (k + m)) (by rw [List.length_drop]; omega) _ _ h5
      intro x hx
      rcases List.mem_cons.1 hx with rfl | hx
      · omega
      · exact ih x hx
end Go.Proofs.YthiifacfkeibbaaDoor

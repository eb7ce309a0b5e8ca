/- Walks: the page's own answer: Unquote. -/
import Derived.Test.YthiifacfkeibbaaDoorRefD
import Derived.Deep.QuietTactic
import Derived.BigQuiet
namespace Go.Proofs.YthiifacfkeibbaaDoor
open Go Go.RowKit
open Go.Proofs

theorem rhex_quiet (c : UInt8) (q : Int) (h : hexIx c = q) (w : World) :
    Calls Tryd.prog 45 #[.int .u8 (c.toNat : Int)] w fun e w' => e = .returned (.int .i64 q) ∧ w' = w := by
  subst h
  exact (rhex_any c w).mono fun e w' h => ⟨h.1, h.2.symm⟩
theorem bits16 : ∀ a b : Fin 16, 16 * (a.val : Int) + (b.val : Int) = ((UInt8.ofNat (a.val * 16 + b.val)).toNat : Int) := by decide +kernel

set_option maxRecDepth 100000 in
set_option maxHeartbeats 4000000 in
/-- Whatever the text is, the loop reads on; 'g' says what has been read when it is at a place. -/
theorem runq_walk (x : List UInt8) (hx : x.length ≤ 19000) (g : Nat → List UInt8 → Prop) (R : List UInt8) (E : Int)
    (h0 : g 1 [])
    (hplain : ∀ p text (h : p < x.length), p + 1 < x.length → g p text → (x[p] ≠ 92 ∨ ¬ p + 3 < x.length ∨ (∃ h1 : p + 1 < x.length, hexIx x[p + 1] = -1) ∨ (∃ h2 : p + 2 < x.length, hexIx x[p + 2] = -1)) → g (p + 1) (text ++ [x[p]]))
    (hhex : ∀ p text (h : p + 3 < x.length) (k1 k2 : Nat), k1 < 16 → k2 < 16 → x[p] = 92 → hexIx x[p + 1] = (k1 : Int) → hexIx x[p + 2] = (k2 : Int) → g p text → g (p + 3) (text ++ [UInt8.ofNat (k1 * 16 + k2)]))
    (hend : ∀ p text, ¬ p + 1 < x.length → g p text → (text.length ≤ 200 ∧ ((Wd.quote text == x) = true ∧ R = text ∧ E = 0 ∨ (Wd.quote text == x) = false ∧ R = [] ∧ E = 3)) ∨ (200 < text.length ∧ R = [] ∧ E = 3))
    (w : World) :
    Calls Tryd.prog 38 #[.string ⟨x.toArray⟩] w fun e w' => e = .returned (.tuple #[.string ⟨R.toArray⟩, .int .i64 E]) ∧ Below w.heap.size w w' := by
  obtain ⟨i0, hi, hz0, hz1, hz2⟩ := info_parts info_u8
  have hix := idx x
  have HIX := Lib.hid hix
  have HP := Lib.hid hplain; have HH := Lib.hid hhex; have HE := Lib.hid hend; have H0 := Lib.hid h0
  clear hix hplain hhex hend h0
  go_enter Tryd.func38, Tryd.ntmps38
  go_wp2_with fail
  go_loopw [4, 5] (fun v i wr => ∃ (p : Nat) (text : List UInt8), i = .int .i64 p ∧ p ≤ x.length + 3 ∧ g p text ∧ text.length ≤ p ∧ wr.ownsRow w.heap.size 5 1 v text.length (Lib.byteCells text) ∧ Below w.heap.size w wr) (fun _ i _ => x.length + 10 - (intOf i).toNat)
  case atStart => exact ⟨1, [], rfl, by omega, H0.out, by simp, World.ownsRow_nil _ _ _ _, Below.refl _ _⟩
  case round =>
    obtain ⟨p, text, rfl, hpx, hgp, htl, hown, hb⟩ := hrel
    have HG := Lib.hid hgp; clear hgp
    have hbs := hb.size
    by_cases hlt : p + 1 < x.length
    · have hi0 := HIX.out p (by omega)
      by_cases h92 : x[p] = 92
      · have hb92 : (((x[p]).toNat : Int) == 92) = true := by rw [h92]; rfl
        by_cases h3 : p + 3 < x.length
        · have hi1 := HIX.out (p + 1) (by omega)
          have hi2 := HIX.out (p + 2) (by omega)
          rw [show ((p + 1 : Nat) : Int) = (p : Int) + 1 from by omega] at hi1
          rw [show ((p + 2 : Nat) : Int) = (p : Int) + 2 from by omega] at hi2
          have q1 := rhex_any x[p + 1]
          have q2 := rhex_any x[p + 2]
          rcases hexIx_cases x[p + 1] with c1 | ⟨k1, b1, c1, _⟩
          · have hn := HP.out p text (by omega) hlt HG.out (Or.inr (Or.inr (Or.inl ⟨by omega, c1⟩)))
            rw [c1] at q1
            have HN := Lib.hid hn; have Q1 := Lib.hid q1
            clear hn q1 q2 c1 hi2 h92
            generalize x[p] = cc at *
            go_wp2_with (first | (go_at_call 45; refine (Q1.out _).mono ?_; rintro e w' ⟨rfl, rfl⟩) | (at_builtin; refine wpList_append_own _ rfl _ _ 22 rfl w.heap.size 5 i0 (.int .u8 0) 1 1 Tryd.underlying22 hi hz0 hz1 hz2 rfl (by decide) _ _ _ rfl (hown.alloc _) ⟨wr.heap.size, 0, none⟩ 1 1 [.int .u8 (cc.toNat : Int)] rfl rfl ?a1 ?a2 ?a3 ?a4 ?a5 ?_))
            case a1 => exact cell_one_new _ _ _
            case a2 => intro u hu; simp at hu; subst hu; rfl
            case a3 => unfold maxLen; omega
            case a4 => omega
            case a5 => simp; omega
            intro v' w1 hown' hg _
            go_wp2
            go_roundw
            case rel => exact ⟨p + 1, text ++ [cc], by go_num, by omega, HN.out, by simp; omega, app1 hown', (hb.alloc hbs _).grown hg (by simp; omega) (fun k hk => (hown.lt k hk).1)⟩
            case measure => simp [intOf]; omega
          · rcases hexIx_cases x[p + 2] with c2 | ⟨k2, b2, c2, _⟩
            · have hn := HP.out p text (by omega) hlt HG.out (Or.inr (Or.inr (Or.inr ⟨by omega, c2⟩)))
              rw [c1] at q1; rw [c2] at q2
              have HN := Lib.hid hn; have Q1 := Lib.hid q1; have Q2 := Lib.hid q2
              clear hn q1 q2 c1 c2 h92
              generalize x[p] = cc at *
              go_wp2_with (first | (go_at_call 45; ((with_reducible refine (Q1.out _).mono ?_); rintro e w' ⟨rfl, rfl⟩)) | (go_at_call 45; ((with_reducible refine (Q2.out _).mono ?_); rintro e w' ⟨rfl, rfl⟩)) | (at_builtin; refine wpList_append_own _ rfl _ _ 22 rfl w.heap.size 5 i0 (.int .u8 0) 1 1 Tryd.underlying22 hi hz0 hz1 hz2 rfl (by decide) _ _ _ rfl (hown.alloc _) ⟨wr.heap.size, 0, none⟩ 1 1 [.int .u8 (cc.toNat : Int)] rfl rfl ?b1 ?b2 ?b3 ?b4 ?b5 ?_))
              case b1 => exact cell_one_new _ _ _
              case b2 => intro u hu; simp at hu; subst hu; rfl
              case b3 => unfold maxLen; omega
              case b4 => omega
              case b5 => simp; omega
              intro v' w1 hown' hg _
              go_wp2
              go_roundw
              case rel => exact ⟨p + 1, text ++ [cc], by go_num, by omega, HN.out, by simp; omega, app1 hown', (hb.alloc hbs _).grown hg (by simp; omega) (fun k hk => (hown.lt k hk).1)⟩
              case measure => simp [intOf]; omega
            · have hn := HH.out p text h3 k1 k2 b1 b2 h92 c1 c2 HG.out
              have r1 := rhex_quiet x[p + 1] _ c1
              have r2 := rhex_quiet x[p + 2] _ c2
              have R1 := Lib.hid r1; have R2 := Lib.hid r2; clear r1 r2
              rw [c1] at q1; rw [c2] at q2
              have hbit := bits16 ⟨k1, b1⟩ ⟨k2, b2⟩
              simp only [] at hbit
              have HN := Lib.hid hn; have Q1 := Lib.hid q1; have Q2 := Lib.hid q2
              clear hn q1 q2 c1 c2 h92
              generalize UInt8.ofNat (k1 * 16 + k2) = cc at *
              have hcc : (cc.toNat : Int) < 256 := by have := cc.toNat_lt; omega
              go_wp2_with (first | (go_at_call 45; ((with_reducible refine (Q1.out _).mono ?_); rintro e w' ⟨rfl, rfl⟩)) | (go_at_call 45; ((with_reducible refine (Q2.out _).mono ?_); rintro e w' ⟨rfl, rfl⟩)))
              go_quiet ((first | (go_at_call 45; (with_reducible exact Calls.quiet_of_same (R1.out _))) | (go_at_call 45; (with_reducible exact Calls.quiet_of_same (R2.out _)))))
              generalize hW2 : wr.drewN _ = wq
              have hownq : wq.ownsRow w.heap.size 5 1 u4 text.length (Lib.byteCells text) := by rw [← hW2]; exact hown
              have hbq : Below w.heap.size w wq := by rw [← hW2]; exact hb.trans (below_drewN _ _ _)
              have hbsq := hbq.size
              clear hW2 hown hb hbs
              go_wp2_with (at_builtin; refine wpList_append_own _ rfl _ _ 22 rfl w.heap.size 5 i0 (.int .u8 0) 1 1 Tryd.underlying22 hi hz0 hz1 hz2 rfl (by decide) _ _ _ rfl (hownq.alloc _) ⟨wq.heap.size, 0, none⟩ 1 1 [.int .u8 (cc.toNat : Int)] rfl rfl ?h1 ?h2 ?h3 ?h4 ?h5 ?_)
              case h1 => exact cell_one_new _ _ _
              case h2 => intro u hu; simp at hu; subst hu; rfl
              case h3 => unfold maxLen; omega
              case h4 => omega
              case h5 => simp; omega
              intro v' w1 hown' hg _
              go_wp2
              go_roundw
              case rel => exact ⟨p + 3, text ++ [cc], by go_num, by omega, HN.out, by simp; omega, app1 hown', (hbq.alloc hbsq _).grown hg (by simp; omega) (fun k hk => (hownq.lt k hk).1)⟩
              case measure => simp [intOf]; omega
        · have hn := HP.out p text (by omega) hlt HG.out (Or.inr (Or.inl h3))
          have HN := Lib.hid hn
          have h3' : ¬ (p : Int) + 3 < (x.length : Int) := by omega
          clear hn h92
          generalize x[p] = cc at *
          go_wp2_with (at_builtin; refine wpList_append_own _ rfl _ _ 22 rfl w.heap.size 5 i0 (.int .u8 0) 1 1 Tryd.underlying22 hi hz0 hz1 hz2 rfl (by decide) _ _ _ rfl (hown.alloc _) ⟨wr.heap.size, 0, none⟩ 1 1 [.int .u8 (cc.toNat : Int)] rfl rfl ?ga1 ?ga2 ?ga3 ?ga4 ?ga5 ?_)
          all_goals first | exact cell_one_new _ _ _ | (intro u hu; simp at hu; subst hu; rfl) | rfl | (unfold maxLen; omega) | omega | (simp; omega) | skip
          intro v' w1 hown' hg _
          go_wp2
          go_roundw
          case rel => exact ⟨p + 1, text ++ [cc], by go_num, by omega, HN.out, by simp; omega, app1 hown', (hb.alloc hbs _).grown hg (by simp; omega) (fun k hk => (hown.lt k hk).1)⟩
          case measure => simp [intOf]; omega
      · have hb92 : (((x[p]).toNat : Int) == 92) = false := by
          rw [beq_eq_false_iff_ne]; intro e
          exact h92 (UInt8.toNat_inj.1 (by have : (92 : UInt8).toNat = 92 := rfl; omega))
        have hn := HP.out p text (by omega) hlt HG.out (Or.inl h92)
        have HN := Lib.hid hn
        clear hn h92
        generalize x[p] = cc at *
        go_wp2_with (at_builtin; refine wpList_append_own _ rfl _ _ 22 rfl w.heap.size 5 i0 (.int .u8 0) 1 1 Tryd.underlying22 hi hz0 hz1 hz2 rfl (by decide) _ _ _ rfl (hown.alloc _) ⟨wr.heap.size, 0, none⟩ 1 1 [.int .u8 (cc.toNat : Int)] rfl rfl ?f1 ?f2 ?f3 ?f4 ?f5 ?_)
        case f1 => exact cell_one_new _ _ _
        case f2 => intro u hu; simp at hu; subst hu; rfl
        case f3 => unfold maxLen; omega
        case f4 => omega
        case f5 => simp; omega
        intro v' w1 hown' hg _
        go_wp2
        go_roundw
        case rel => exact ⟨p + 1, text ++ [cc], by go_num, by omega, HN.out, by simp; omega, app1 hown', (hb.alloc hbs _).grown hg (by simp; omega) (fun k hk => (hown.lt k hk).1)⟩
        case measure => simp [intOf]; omega
    · have hcv := conv_own hown
      rcases HE.out p text hlt HG.out with ⟨ht, ⟨hq, hR, hE⟩ | ⟨hq, hR, hE⟩⟩ | ⟨ht, hR, hE⟩
      · have HR := Lib.hid hR; have HEE := Lib.hid hE; clear hR hE
        go_wp2_with (go_at_call 13; refine (rquote_any text ht _).mono ?_; rintro e w2 ⟨rfl, hb2⟩)
        go_ret2
        exact ⟨ret_tuple2 (by rw [HR.out]; rfl) (by rw [HEE.out]; rfl), hb.trans (hb2.mono hbs)⟩
      · have HR := Lib.hid hR; have HEE := Lib.hid hE; clear hR hE
        go_wp2_with (go_at_call 13; refine (rquote_any text ht _).mono ?_; rintro e w2 ⟨rfl, hb2⟩)
        go_ret2
        exact ⟨ret_tuple2 (by rw [HR.out]; rfl) (by rw [HEE.out]; rfl), hb.trans (hb2.mono hbs)⟩
      · have HR := Lib.hid hR; have HEE := Lib.hid hE; clear hR hE
        go_wp2_with (go_at_call 13; refine (rquote_big text ht (by omega) _).mono ?_; rintro e w2 ⟨rfl, rfl⟩)
        go_ret2
        exact ⟨ret_tuple2 (by rw [HR.out]; rfl) (by rw [HEE.out]; rfl), hb⟩

/-! ### What the loop reads -/
theorem drop_at (x : List UInt8) (p : Nat) (h : p < x.length) : x.drop p = x[p] :: x.drop (p + 1) := List.drop_eq_getElem_cons h
theorem runq_yes (u : List UInt8) (hu : u.length ≤ 200) (w : World) :
    Calls Tryd.prog 38 #[.string ⟨(Wd.quote u).toArray⟩] w fun e w' => e = .returned (.tuple #[.string ⟨u.toArray⟩, .int .i64 0]) ∧ Below w.heap.size w w' := by
  have hxl := quote_len u
  -- at a place behind k bytes' signs the rest of the literal stands
  refine runq_walk (Wd.quote u) (by omega) (fun p text => ∃ k, k ≤ u.length ∧ text = u.take k ∧ (Wd.quote u).drop p = Wd.body (u.drop k) ++ [34]) u 0 ?_ ?_ ?_ ?_ w
  · exact ⟨0, Nat.zero_le _, rfl, by simp [Wd.quote]⟩
  · rintro p text h h1 ⟨k, hk, rfl, hd⟩ hc
    have hlen : (Wd.quote u).length - p = (Wd.body (u.drop k)).length + 1 := by have := congrArg List.length hd; simpa using this
    have hku : k < u.length := by
      rcases Nat.lt_or_ge k u.length with h | h
      · exact h
      · rw [List.drop_eq_nil_of_le h] at hlen; simp [Wd.body] at hlen; omega
    have hdk := List.drop_eq_getElem_cons hku
    rw [hdk, Wd.body_cons] at hd
    cases hp : Wd.plain u[k]
    · exfalso
      rw [Wd.qb_hex hp] at hd
      have hlt := (u[k]).toNat_lt
      have d0 := drop_at (Wd.quote u) p h
      rw [d0] at hd
      simp only [List.cons_append, List.nil_append, List.cons.injEq] at hd
      have l1 := congrArg List.length hd.2
      simp at l1
      have d1 := drop_at (Wd.quote u) (p + 1) (by omega)
      rw [d1] at hd
      simp only [List.cons.injEq] at hd
      have d2 := drop_at (Wd.quote u) (p + 1 + 1) (by omega)
      rw [d2] at hd
      simp only [List.cons.injEq] at hd
      have k1 := hexIx_of ⟨(u[k]).toNat / 16, by omega⟩
      have k2 := hexIx_of ⟨(u[k]).toNat % 16, by omega⟩
      simp only [] at k1 k2
      rcases hc with h2 | h2 | ⟨h2, h3⟩ | ⟨h2, h3⟩
      · exact h2 hd.1
      · omega
      · rw [hd.2.1, k1] at h3; omega
      · rw [show (Wd.quote u)[p + 2] = (Wd.quote u)[p + 1 + 1] from rfl, hd.2.2.1, k2] at h3; omega
    · rw [Wd.qb_plain hp, drop_at _ p h] at hd
      simp only [List.cons_append, List.nil_append, List.cons.injEq] at hd
      exact ⟨k + 1, by omega, by rw [hd.1, List.take_succ_eq_append_getElem hku], hd.2⟩
  · rintro p text h k1 k2 b1 b2 h92 c1 c2 ⟨k, hk, rfl, hd⟩
    have hlen : (Wd.quote u).length - p = (Wd.body (u.drop k)).length + 1 := by have := congrArg List.length hd; simpa using this
    have hku : k < u.length := by
      rcases Nat.lt_or_ge k u.length with h | h
      · exact h
      · rw [List.drop_eq_nil_of_le h] at hlen; simp [Wd.body] at hlen; omega
    have hdk := List.drop_eq_getElem_cons hku
    rw [hdk, Wd.body_cons, drop_at _ p (by omega)] at hd
    cases hp : Wd.plain u[k]
    · rw [Wd.qb_hex hp, drop_at _ (p + 1) (by omega), drop_at _ (p + 1 + 1) (by omega)] at hd
      simp only [List.cons_append, List.nil_append, List.cons.injEq] at hd
      have hlt := (u[k]).toNat_lt
      have q1 := hexIx_of ⟨(u[k]).toNat / 16, by omega⟩
      have q2 := hexIx_of ⟨(u[k]).toNat % 16, by omega⟩
      simp only [] at q1 q2
      rw [hd.2.1, q1] at c1
      rw [show (Wd.quote u)[p + 2] = (Wd.quote u)[p + 1 + 1] from rfl, hd.2.2.1, q2] at c2
      have e : UInt8.ofNat (k1 * 16 + k2) = u[k] := by
        rw [show k1 * 16 + k2 = (u[k]).toNat from by omega]; simp
      exact ⟨k + 1, by omega, by rw [e, List.take_succ_eq_append_getElem hku], hd.2.2.2⟩
    · exfalso
      rw [Wd.qb_plain hp] at hd
      simp only [List.cons_append, List.cons.injEq] at hd
      rw [h92] at hd
      rw [← hd.1, Wd.plain92] at hp; cases hp
  · rintro p text h ⟨k, hk, rfl, hd⟩
    have hlen : (Wd.quote u).length - p = (Wd.body (u.drop k)).length + 1 := by have := congrArg List.length hd; simpa using this
    have hb := (Wd.body_len (u.drop k)).1
    simp only [List.length_drop] at hb
    have hku : k = u.length := by omega
    subst hku
    rw [List.take_length]
    exact Or.inl ⟨hu, Or.inl ⟨by simp, rfl, rfl⟩⟩

theorem runq_no (x : List UInt8) (hx : x.length ≤ 19000) (h : ∀ t, t.length ≤ 200 → Wd.quote t ≠ x) (w : World) :
    Calls Tryd.prog 38 #[.string ⟨x.toArray⟩] w fun e w' => e = .returned (.tuple #[.string ⟨#[]⟩, .int .i64 3]) ∧ Below w.heap.size w w' := by
  refine runq_walk x hx (fun _ _ => True) [] 3 trivial (fun _ _ _ _ _ _ => trivial) (fun _ _ _ _ _ _ _ _ _ _ _ => trivial) ?_ w
  intro p text _ _
  by_cases ht : text.length ≤ 200
  · exact Or.inl ⟨ht, Or.inr ⟨by rw [beq_eq_false_iff_ne]; exact h text ht, rfl, rfl⟩⟩
  · exact Or.inr ⟨by omega, rfl, rfl⟩
end Go.Proofs.YthiifacfkeibbaaDoor

/- What Put makes of a type, plainly. The page's inner: how many pairs, lists and functions a type has. store.backwards. store.backwards: the walk. -/
import Derived.Test.YteolbbgnkbcfmaaStW
import Derived.Test.YteolbbgnkbcfmaaStY
import Derived.Test.YteolbbgnkbcfmaaTrA
import Derived.Test.YteolbbgnkbcfmaaTqB
import Derived.Test.YteolbbgnkbcfmaaTnB
import Derived.OwnWalk
import Derived.Test.YteolbbgnkbcfmaaAgL
import Derived.Deep.QuietTactic
namespace Go.Proofs.Yteolbbgnkbcfmaa
open Go Go.RowKit
open Tp (T)
open Sg (Of Rt Den Dens Alk Mkd trav travs rootOf kidsOf)
mutual
/-- The nodes of a type, kids first. -/
def post : T → List T
  | .mk k n l => posts l ++ [.mk k n l]
def posts : List T → List T
  | [] => []
  | t :: r => post t ++ posts r
end
mutual
/-- How many nodes have kids. -/
def inner : T → Nat
  | .mk _ _ l => min l.length 1 + inners l
def inners : List T → Nat
  | [] => 0
  | t :: r => inner t + inners r
end
/-- A node of its own. -/
def ptNode (k : Int) (ks : List Nat) (n : Nat) : SNd := ⟨⟨k, 0, ((ks.getD 0 0 : Nat) : Int), ((ks.getD 1 0 : Nat) : Int), 0⟩, n⟩
mutual
/-- What making leaves, and the node. -/
def mkP (H : List SNd) : T → List SNd × Nat
  | .mk k _ l => match l with
    | [] => (H, (k - 1).toNat)
    | c :: cs => ((mkPs H (c :: cs)).1 ++ [ptNode k (mkPs H (c :: cs)).2 (mkPs H (c :: cs)).1.length], (mkPs H (c :: cs)).1.length)
def mkPs (H : List SNd) : List T → List SNd × List Nat
  | [] => (H, [])
  | t :: r => ((mkPs (mkP H t).1 r).1, (mkP H t).2 :: (mkPs (mkP H t).1 r).2)
end
/-- A step of Put's loop. -/
def pst (S : List SNd × List Nat) (x : T) : Option (List SNd × List Nat) :=
  if x.kids = [] then some (S.1, S.2 ++ [(x.kind - 1).toNat])
  else if S.2.length < x.kids.length then none
  else some (S.1 ++ [ptNode x.kind (S.2.drop (S.2.length - x.kids.length)) S.1.length], S.2.take (S.2.length - x.kids.length) ++ [S.1.length])
theorem mkPs_len : ∀ (l : List T) (H : List SNd), (mkPs H l).2.length = l.length
  | [], H => rfl
  | t :: r, H => by simp only [mkPs, List.length_cons, mkPs_len r]
mutual
theorem pst_post : ∀ (t : T) (S : List SNd × List Nat), (post t).foldlM pst S = some ((mkP S.1 t).1, S.2 ++ [(mkP S.1 t).2])
  | .mk k n l, S => by
    rw [post, List.foldlM_append, pst_posts l S]
    show [T.mk k n l].foldlM pst ((mkPs S.1 l).1, S.2 ++ (mkPs S.1 l).2) = _
    rw [List.foldlM_cons]
    have hl := mkPs_len l S.1
    cases l with
    | nil => simp [pst, Tp.T.kids, mkP, mkPs, Tp.T.kind]
    | cons c cs =>
      have e : pst ((mkPs S.1 (c :: cs)).1, S.2 ++ (mkPs S.1 (c :: cs)).2) (.mk k n (c :: cs)) = some ((mkP S.1 (.mk k n (c :: cs))).1, S.2 ++ [(mkP S.1 (.mk k n (c :: cs))).2]) := by
        unfold pst
        rw [if_neg (by simp [Tp.T.kids]), if_neg (by simp only [Tp.T.kids, List.length_append, hl]; omega)]
        simp only [Tp.T.kids, Tp.T.kind, List.length_append, hl, Nat.add_sub_cancel, List.take_left', List.drop_left']
        rw [mkP]
      rw [e]; rfl
theorem pst_posts : ∀ (l : List T) (S : List SNd × List Nat), (posts l).foldlM pst S = some ((mkPs S.1 l).1, S.2 ++ (mkPs S.1 l).2)
  | [], S => by simp [posts, mkPs]
  | t :: r, S => by
    rw [posts, List.foldlM_append, pst_post t S]
    show (posts r).foldlM pst ((mkP S.1 t).1, S.2 ++ [(mkP S.1 t).2]) = _
    rw [pst_posts r]
    simp [mkPs]
end
/-- The state after some nodes, and the next step. -/
theorem pst_at {l : List T} {S R : List SNd × List Nat} (h : l.foldlM pst S = some R) (k : Nat) (hk : k < l.length) : ∃ A B, (l.take k).foldlM pst S = some A ∧ pst A l[k] = some B ∧ (l.take (k + 1)).foldlM pst S = some B := by
  have e : l = l.take k ++ l[k] :: l.drop (k + 1) := by rw [List.getElem_cons_drop, List.take_append_drop]
  rw [e, List.foldlM_append] at h
  cases hA : (l.take k).foldlM pst S with
  | none => rw [hA] at h; cases h
  | some A =>
    rw [hA] at h
    have h' : (l[k] :: l.drop (k + 1)).foldlM pst A = some R := h
    rw [List.foldlM_cons] at h'
    cases hB : pst A l[k] with
    | none => rw [hB] at h'; cases h'
    | some B =>
      refine ⟨A, B, rfl, hB, ?_⟩
      rw [List.take_succ_eq_append_getElem hk, List.foldlM_append, hA]
      show [l[k]].foldlM pst A = some B
      rw [List.foldlM_cons, hB]; rfl
mutual
/-- The nodes of a type in the order in which a stack lists them. -/
def bw : T → List T
  | .mk k n l => .mk k n l :: bws l
def bws : List T → List T
  | [] => []
  | t :: r => bws r ++ bw t
end
theorem bw_eq (t : T) : bw t = t :: bws t.kids := by cases t; rw [bw]; rfl
theorem bws_append : ∀ a b : List T, bws (a ++ b) = bws b ++ bws a
  | [], b => by simp [bws]
  | t :: r, b => by simp only [List.cons_append, bws, bws_append r b, List.append_assoc]
mutual
theorem bw_post : ∀ t : T, (bw t).reverse = post t
  | .mk k n l => by rw [bw, List.reverse_cons, bws_posts l, post]
theorem bws_posts : ∀ l : List T, (bws l).reverse = posts l
  | [] => rfl
  | t :: r => by rw [bws, List.reverse_append, bw_post t, bws_posts r, posts]
end
mutual
theorem bw_len : ∀ t : T, (bw t).length = Tp.size t
  | .mk k n l => by rw [bw, List.length_cons, bws_len l, Tp.size]
theorem bws_len : ∀ l : List T, (bws l).length = Tp.sizes l
  | [] => rfl
  | t :: r => by rw [bws, List.length_append, bw_len t, bws_len r, Tp.sizes]; omega
end
/-- How many of a list have kids. -/
def icnt (l : List T) : Nat := (l.map fun x => min x.kids.length 1).sum
theorem icnt_append (a b : List T) : icnt (a ++ b) = icnt a + icnt b := by simp [icnt]
mutual
theorem icnt_bw : ∀ t : T, icnt (bw t) = inner t
  | .mk k n l => by
    rw [bw, inner, ← icnt_bws l]; simp [icnt, Tp.T.kids]
theorem icnt_bws : ∀ l : List T, icnt (bws l) = inners l
  | [] => rfl
  | t :: r => by rw [bws, icnt_append, icnt_bw t, icnt_bws r, inners]; omega
end
mutual
theorem inner_le : ∀ t : T, inner t ≤ Tp.size t
  | .mk k n l => by have := inners_le l; simp only [inner, Tp.size]; omega
theorem inners_le : ∀ l : List T, inners l ≤ Tp.sizes l
  | [] => Nat.le_refl _
  | t :: r => by have := inner_le t; have := inners_le r; simp only [inners, Tp.sizes]; omega
end
mutual
theorem mkP_len : ∀ (t : T) (H : List SNd), (mkP H t).1.length = H.length + inner t
  | .mk k n [], H => by simp [mkP, inner, inners]
  | .mk k n (c :: cs), H => by
    rw [mkP, List.length_append, mkPs_nodes (c :: cs) H, inner]; simp; omega
theorem mkPs_nodes : ∀ (l : List T) (H : List SNd), (mkPs H l).1.length = H.length + inners l
  | [], H => by simp [mkPs, inners]
  | t :: r, H => by rw [mkPs, mkPs_nodes r, mkP_len t, inners]; omega
end
theorem ar_arity {k : Int} {m : Nat} (h : Tp.arity k = (m : Int)) : ar k = m := by
  unfold Tp.arity at h; unfold ar
  split at h
  · rw [if_neg (by omega), if_neg (by omega)]; omega
  · split at h
    · rw [if_neg (by omega), if_pos (by omega)]; omega
    · split at h
      · rw [if_pos (by omega)]; omega
      · omega
theorem leaf_kind {k : Int} (h : Tp.arity k = 0) (h6 : k ≠ 6) : 1 ≤ k ∧ k ≤ 5 := by
  unfold Tp.arity at h
  split at h
  · omega
  · split at h
    · omega
    · split at h <;> omega
theorem kidL_ns {k : Int} : ∀ {ns : List Nat}, ns.length = ar k → kidL k ((ns.getD 0 0 : Nat) : Int) ((ns.getD 1 0 : Nat) : Int) = ns.map fun (n : Nat) => (n : Int)
  | [], h => by unfold kidL; rw [← h]; rfl
  | [x], h => by unfold kidL; rw [← h]; rfl
  | [x, y], h => by unfold kidL; rw [← h]; rfl
  | _ :: _ :: _ :: _, h => by have := ar_le k; simp only [List.length_cons] at h; omega
theorem rights_split {t : T} {r : List T} (h : Tp.rights (t :: r) = true) : Tp.right t = true ∧ Tp.rights r = true := by simpa [Tp.rights] using h
theorem withouts_split {x : Int} {t : T} {r : List T} (h : Tp.withouts x (t :: r) = true) : Tp.without x t = true ∧ Tp.withouts x r = true := by simpa [Tp.withouts] using h
/-- No variable has a node. -/
abbrev noM : IMap := fun _ => none
mutual
theorem mkP_ok : ∀ (t : T) (H : List SNd), Tp.right t = true → Tp.without 6 t = true → LvOk H → Grow 0 H noM (mkP H t).1 noM ∧ Im (mkP H t).1 noM t (mkP H t).2
  | .mk k n [], H, hr, hw, hl => by
    obtain ⟨h1, _⟩ := Tp.right_node hr
    have h6 : k ≠ 6 := by simp [Tp.without] at hw; exact hw.1
    obtain ⟨q1, q2⟩ := leaf_kind h1 h6
    obtain ⟨d, d1, d2, d3⟩ := hl (k - 1).toNat (by omega)
    refine ⟨by rw [mkP]; exact Grow.refl _ _ _, ?_⟩
    rw [mkP]
    have hk : d.c.kind = k := by rw [d3]; omega
    exact ⟨d, d1, d2, hk, fun e => absurd e h6, by rw [show Ims H noM [] (kidL d.c.kind d.c.a d.c.b) = (kidL d.c.kind d.c.a d.c.b = []) from rfl, hk]; unfold kidL; rw [ar_arity (m := 0) h1]; rfl⟩
  | .mk k n (c :: cs), H, hr, hw, hl => by
    obtain ⟨h1, h2, _⟩ := Tp.right_node hr
    have hw2 : k ≠ 6 ∧ Tp.withouts 6 (c :: cs) = true := by simpa [Tp.without] using hw
    obtain ⟨g, m⟩ := mkPs_ok (c :: cs) H h2 hw2.2 hl
    have hn := Grow.node 0 (mkPs H (c :: cs)).1 noM (ptNode k (mkPs H (c :: cs)).2 (mkPs H (c :: cs)).1.length).c hw2.1 rfl (by
      have := ar_le k
      have h3 := h1; unfold Tp.arity at h3
      simp only [List.length_cons] at h3
      unfold I64
      show -9223372036854775808 ≤ k ∧ k ≤ 9223372036854775807
      split at h3
      · omega
      · split at h3
        · omega
        · split at h3 <;> omega)
    rw [mkP]
    refine ⟨g.trans hn (fun k p h => by cases h), ?_⟩
    refine ⟨ptNode k (mkPs H (c :: cs)).2 (mkPs H (c :: cs)).1.length, last12 _ _, rfl, rfl, fun e => absurd e hw2.1, ?_⟩
    show Ims _ _ _ (kidL k _ _)
    have he := kidL_ns (k := k) (ns := (mkPs H (c :: cs)).2) (by rw [mkPs_len, ar_arity h1])
    unfold ptNode
    dsimp only
    rw [he]
    exact Ims.mono (fun _ _ h => h) m
theorem mkPs_ok : ∀ (l : List T) (H : List SNd), Tp.rights l = true → Tp.withouts 6 l = true → LvOk H → Grow 0 H noM (mkPs H l).1 noM ∧ Ims (mkPs H l).1 noM l ((mkPs H l).2.map fun (n : Nat) => (n : Int))
  | [], H, _, _, _ => ⟨Grow.refl _ _ _, rfl⟩
  | t :: r, H, hr, hw, hl => by
    obtain ⟨r1, r2⟩ := rights_split hr
    obtain ⟨w1, w2⟩ := withouts_split hw
    obtain ⟨g1, m1⟩ := mkP_ok t H r1 w1 hl
    obtain ⟨g2, m2⟩ := mkPs_ok r (mkP H t).1 r2 w2 (g1.lv hl)
    rw [mkPs]
    exact ⟨g1.trans g2 (fun k p h => by cases h), (mkP H t).2, _, rfl, g2.im m1, m2⟩
end
end Go.Proofs.Yteolbbgnkbcfmaa
namespace Go.Proofs.Yteolbbgnkbcfmaa
open Go Go.RowKit
open Tp (T)
theorem inners_app : ∀ a b : List T, inners (a ++ b) = inners a + inners b
  | [], b => by simp [inners]
  | t :: r, b => by simp only [List.cons_append, inners, inners_app r b]; omega
theorem inners_take (l : List T) (k : Nat) (h : k < l.length) : inners (l.take (k + 1)) = inners (l.take k) + inner l[k] := by
  rw [List.take_succ_eq_append_getElem h, inners_app]; simp [inners]
theorem inner_kids (t : T) : inner t = min t.kids.length 1 + inners t.kids := by cases t; rfl
set_option maxRecDepth 100000 in
set_option maxHeartbeats 2000000 in
theorem inner_any : ∀ (n : Nat) (t : T) (a : Option Addr) (cap : Nat) (w : World), Tp.size t ≤ n → Tp.size t ≤ 10000 → TyAt (LT w.heap.size) w t a cap →
    Calls Try.prog 30 #[tv t a cap] w fun e w' => e = .returned (.int .i64 (inner t : Int)) ∧ Below w.heap.size w w' := by
  intro n
  induction n with
  | zero => intro t a cap w h; have := Tp.size_pos t; omega
  | succ n ih =>
    intro t a cap w hn hs hty
    have hm10 : (t.kids.length : Int) ≤ 10000 := by have := Tp.length_le_sizes t.kids; have := size_kids t; omega
    have HN := Lib.hid hn; have HS := Lib.hid hs; have HTY := Lib.hid hty; have IH := Lib.hid ih; clear hn hs hty ih
    have hlen : ∃ m, t.kids.length = m := ⟨_, rfl⟩
    obtain ⟨m, hm⟩ := hlen
    unfold tv
    rw [hm] at hm10 ⊢
    have HM := Lib.hid hm; clear hm
    go_enter Try.func30, Try.ntmps30
    go_upto_region 1 with fail
    go_cut [3] from 200 (fun v wx => v = .int .i64 ((min m 1 : Nat) : Int) ∧ wx = w.alloc (.cells #[.int .i64 t.kind, .int .i64 t.num, .slice a m cap] 26))
    case first =>
      go_wp2_with fail
      all_goals
        go_meet
        case rel => exact ⟨by congr 1; omega, rfl⟩
    case rest =>
    obtain ⟨rfl, hwc⟩ := hcut
    rw [hwc]
    clear hwc wc
    go_wp2_with fail
    go_loopg [3, 4] m (fun gk v i wr => ∃ k : Nat, k ≤ m ∧ i = .int .i64 k ∧ v = .int .i64 (((min m 1 : Nat) : Int) + (inners (t.kids.take k) : Nat)) ∧ Below (w.heap.size + 1) (w.alloc (.cells #[.int .i64 t.kind, .int .i64 t.num, .slice a m cap] 26)) wr ∧ gk = m - k)
    case atStart => exact ⟨0, Nat.zero_le _, rfl, by (simp [inners]), Below.refl _ _, rfl⟩
    case round =>
      obtain ⟨k, hk, rfl, rfl, hb, rfl⟩ := hrel
      have c2 : wr.cell? ⟨w.heap.size, 2, none⟩ = some (.slice a m cap) := cell_box (World.alloc_heap_new w _) (hb.block w.heap.size (by omega)) rfl
      have hbw : Below w.heap.size w wr := ((Below.refl _ _).alloc (Nat.le_refl _) _).trans (hb.mono (by omega))
      have HB := Lib.hid hb; have HBW := Lib.hid hbw; clear hb hbw
      by_cases hlt : k < m
      · have hkl : k < t.kids.length := by rw [HM.out]; exact hlt
        obtain ⟨b, o, xa, xcap, rfl, hbn, hx, x0, x1, x2⟩ := kid_at HTY.out HBW.out (Nat.le_refl _) hkl
        have hst := inners_take t.kids k hkl
        have hle1 := inners_le (t.kids.take k)
        have hle2 := inner_le t.kids[k]
        have hsk := size_kid t.kids k hkl
        have hsl := sizes_take_le t.kids (k + 1)
        have hss := size_kids t
        have hcall := IH.out t.kids[k] xa xcap wr (by have := HN.out; omega) (by have := HS.out; omega) hx
        unfold tv at hcall
        obtain ⟨x, hx'⟩ : ∃ x, t.kids[k] = x := ⟨_, rfl⟩
        rw [hx'] at x0 x1 x2 hcall hst hle2
        obtain ⟨s1, hs1⟩ : ∃ s1, inners (t.kids.take k) = s1 := ⟨_, rfl⟩
        obtain ⟨s2, hs2⟩ : ∃ s1, inner x = s1 := ⟨_, rfl⟩
        have hxs : Tp.size x ≤ Tp.sizes (t.kids.take (k + 1)) := by have h9 := sizes_take t.kids k hkl; rw [hx'] at h9; omega
        have hys : Tp.sizes (t.kids.take k) ≤ Tp.sizes t.kids := sizes_take_le t.kids k
        rw [hs2] at hcall hst hle2; rw [hs1] at hst hle1 ⊢
        have hbd : ((min m 1 : Nat) : Int) + (s1 : Int) + s2 ≤ 30000 := by have := HS.out; omega
        have HST := Lib.hid hst; have HC := Lib.hid hcall; have HX := Lib.hid hx'
        clear hst hcall hsk hsl hss hx hx' hs1 hs2 hle1 hle2 hxs hys
        obtain ⟨mm, hmm⟩ : ∃ q, ((min m 1 : Nat) : Int) = q := ⟨_, rfl⟩
        have hm0 : 0 ≤ mm := by rw [← hmm]; exact Int.natCast_nonneg _
        rw [hmm] at hbd ⊢
        have hp1 : (0 : Int) ≤ s1 := Int.natCast_nonneg _
        have hp2 : (0 : Int) ≤ s2 := Int.natCast_nonneg _
        go_wp2_with (go_at_call 30; refine HC.out.mono ?_; rintro e w' ⟨rfl, hb'⟩)
        go_roundg (m - (k + 1))
        case measure => omega
        case rel => exact ⟨k + 1, by omega, by go_num, by rw [HST.out]; go_num, HB.out.trans (hb'.mono (by have := HB.out.size; rw [World.size_alloc] at this; exact this)), rfl⟩
      · obtain rfl : k = m := by omega
        go_wp2_with fail
        go_ret
        exact ⟨ret_intT (by rw [List.take_of_length_le (by rw [HM.out]; exact Nat.le_refl _), inner_kids t, HM.out]; omega), HBW.out⟩

end Go.Proofs.Yteolbbgnkbcfmaa
namespace Go.Proofs.Yteolbbgnkbcfmaa
open Go Go.RowKit
open Tp (T)
/-- Kids that lie, one by one. -/
theorem kids_ke {n : Nat} {w : World} : ∀ (l : List T) (a : Option Addr), KidsAt (LT n) w l a → ∃ ks : List Ke, ks.map Ke.t = l ∧ (∀ e ∈ ks, TyAt (LT n) w e.t e.a e.cap) ∧
    (l ≠ [] → ∃ b o, a = some ⟨b, o, none⟩ ∧ b < n ∧ ∀ j u, (rowCells ks)[j]? = some u → w.cell? ⟨b, o + j, none⟩ = some u)
  | [], _, _ => ⟨[], rfl, fun _ h => (by cases h), fun h => absurd rfl h⟩
  | t :: r, a, h => by
    obtain ⟨b, o, rfl, hb, hn, hr⟩ := h.head
    obtain ⟨xa, xc, hty, c0, c1, c2⟩ := hn.ty
    obtain ⟨ks, h1, h2, h3⟩ := kids_ke r _ hr
    refine ⟨⟨t, xa, xc⟩ :: ks, by rw [List.map_cons, h1], fun e he => ?_, fun _ => ⟨b, o, rfl, hb, fun j u hu => ?_⟩⟩
    · rcases List.mem_cons.1 he with rfl | he
      · exact hty
      · exact h2 e he
    · have e : rowCells (⟨t, xa, xc⟩ :: ks) = keCells ⟨t, xa, xc⟩ ++ rowCells ks := by simp [rowCells]
      rw [e] at hu
      by_cases hj : j < 3
      · rw [List.getElem?_append_left (by simp [keCells]; omega)] at hu
        match j, hj with
        | 0, _ => injection hu with hu; subst hu; exact c0
        | 1, _ => injection hu with hu; subst hu; exact c1
        | 2, _ => injection hu with hu; subst hu; exact c2
      · rw [List.getElem?_append_right (by simp [keCells]; omega)] at hu
        have hne : r ≠ [] := fun e => by
          subst e
          rw [List.map_eq_nil_iff] at h1
          subst h1
          simp [rowCells] at hu
        obtain ⟨b', o', e1, _, h5⟩ := h3 hne
        injection e1 with e1
        injection e1 with e1 e2
        subst e1 e2
        have := h5 (j - 3) u (by rw [show j - 3 = j - (keCells ⟨t, xa, xc⟩).length from by simp [keCells]]; exact hu)
        rw [show o + j = o + 3 + (j - 3) from by omega]; exact this
theorem run_append_none' {P : Program} {w : World} (base : Nat) (t ty e : TypeId) (i : TypeInfo) (size : Nat) (ht : P.underlying t = some (.slice e)) (hi : P.info? e = some i)
    (v : Value) (n c : Nat) (xs : List Value) (hown : w.ownsRow base e size v n xs) : (Builtin.append_ #[t, t] ty #[v, .slice none 0 c]).run P w = .ok v w := by
  rcases hown.2 with ⟨rfl, rfl⟩ | ⟨g, cap, cur, rfl, _, _, hnc, _⟩
  · simp [Builtin.append_, run_underlying ht, sizeOf, typeInfo, hi, Builtin.lenOf, Builtin.firstCells]
  · simp [Builtin.append_, run_underlying ht, sizeOf, typeInfo, hi, Builtin.lenOf, Builtin.firstCells, hnc, storeCells]
theorem keCells_one (ks : List Ke) : ∀ u ∈ rowCells ks, u.oneCell' = true := by
  intro u hu
  unfold rowCells at hu
  obtain ⟨e, _, he⟩ := List.mem_flatMap.1 hu
  simp only [keCells, List.mem_cons, List.not_mem_nil, or_false] at he
  rcases he with rfl | rfl | rfl <;> rfl
theorem rowCells_app (a b : List Ke) : rowCells (a ++ b) = rowCells a ++ rowCells b := by simp [rowCells]
theorem ty_pop (g n cap k : Nat) (hk : k ≤ n) (hn : n ≤ cap) (w' : World) :
    (Instr.slice 24 (.slice (some ⟨g, 0, none⟩) n cap) none (some (.int .i64 (k : Int))) none).run Try.prog w' = .ok (.slice (some ⟨g, 0, none⟩) k cap) w' := by
  rw [run_slice_h w' _ _ n cap elem_ty .i64 (k : Int) (by omega) (by omega), size_ty]
  simp [Result.andThen, sliced, add_flat]
/-- A type's kids behind a row of the call's own. -/
theorem app_kids {n B g k cap : Nat} {W : World} {xs : List Ke} (hown : W.ownsRow B 26 3 (.slice (some ⟨g, 0, none⟩) k cap) k (rowCells xs)) {l : List T} {xa : Option Addr} {xc : Nat} (hk : KidsAt (LT n) W l xa) (hlen : k + l.length ≤ 1000000) (hB : B ≤ W.heap.size) :
    ∃ (ks : List Ke) (g2 cap2 : Nat) (W2 : World), ks.map Ke.t = l ∧ (∀ e ∈ ks, TyAt (LT n) W e.t e.a e.cap) ∧ (Builtin.append_ #[24, 24] 24 #[.slice (some ⟨g, 0, none⟩) k cap, .slice xa l.length xc]).run Try.prog W = .ok (.slice (some ⟨g2, 0, none⟩) (k + l.length) cap2) W2 ∧
      W2.ownsRow B 26 3 (.slice (some ⟨g2, 0, none⟩) (k + l.length) cap2) (k + l.length) (rowCells (xs ++ ks)) ∧ W.grownBy W2 (some g) ∧ (g2 = g ∨ g2 = W.heap.size) := by
  obtain ⟨i0, hi, hz0, hz1, hz2⟩ := info_parts info_ty
  obtain ⟨ks, h1, h2, h3⟩ := kids_ke l xa hk
  have hl : ks.length = l.length := by rw [← h1, List.length_map]
  by_cases h0 : l = []
  · subst h0
    have hks : ks = [] := List.map_eq_nil_iff.1 h1
    subst hks
    have hrun : (Builtin.append_ #[24, 24] 24 #[.slice (some ⟨g, 0, none⟩) k cap, .slice xa 0 xc]).run Try.prog W = .ok (.slice (some ⟨g, 0, none⟩) k cap) W := by
      cases xa with
      | none => exact run_append_none' (P := Try.prog) (w := W) B 24 24 26 i0 3 Try.underlying24 hi _ k xc (rowCells xs) hown
      | some ad =>
        have hkc : k ≤ cap := by
          rcases hown.2 with ⟨h, _⟩ | ⟨g', cap', cur, h, _, _, h4, _⟩
          · cases h
          · injection h with _ _ h; rw [h]; exact h4
        simp [Builtin.append_, run_underlying Try.underlying24, sizeOf, typeInfo, hi, Builtin.lenOf, Builtin.firstCells, loadCells, loadCellsFrom, hkc, storeCells]
    exact ⟨[], g, cap, W, rfl, h2, hrun, by rw [List.append_nil]; exact hown, ⟨rfl, rfl, rfl, Nat.le_refl _, fun _ _ _ => rfl⟩, .inl rfl⟩
  · obtain ⟨b, o, rfl, _, hc⟩ := h3 h0
    have hpos : 0 < l.length := List.length_pos_iff.2 h0
    obtain ⟨g2, cap2, W2, q1, q2, q3, q4, _⟩ := run_append_lies (P := Try.prog) W 24 24 B 26 i0 (.agg #[.int .i64 0, .int .i64 0, .slice none 0 0]) 3 40 Try.underlying24 hi hz0 hz1 hz2 rfl (by decide)
      (.slice (some ⟨g, 0, none⟩) k cap) k (rowCells xs) hown ⟨b, o, none⟩ l.length xc (rowCells ks) (by rw [rowCells_length, hl]) (fun j u hu => by rw [add_flat]; exact hc j u hu) (keCells_one ks) hpos (by unfold maxLen; omega) (by omega) hB _ rfl
    refine ⟨ks, g2, cap2, W2, h1, h2, q1, by rw [rowCells_app]; exact q2, q3, ?_⟩
    rcases q4 with q4 | q4
    · left; simp only [Value.ownBlock, Option.some.injEq] at q4; omega
    · exact .inr q4
end Go.Proofs.Yteolbbgnkbcfmaa
namespace Go.Proofs.Yteolbbgnkbcfmaa
open Go Go.RowKit
open Tp (T)
/-- What backwards hands back. -/
def BwP (n : Nat) (t : T) (R : Nat) (w : World) (e : Ending) (w' : World) : Prop :=
  Below w.heap.size w w' ∧ if inner t ≤ R then ∃ (va : Option Addr) (vc : Nat) (D : List Ke), e = .returned (.tuple #[.slice va D.length vc, .bool true]) ∧ D.map Ke.t = bw t ∧ (∀ e ∈ D, TyAt (LT n) w' e.t e.a e.cap) ∧ w'.ownsRow w.heap.size 26 3 (.slice va D.length vc) D.length (rowCells D)
  else e = .returned (.tuple #[.slice none 0 0, .bool false])
/-- Between two rounds. -/
structure BwS (n : Nat) (t : T) (R : Nat) (w : World) (D O : List Ke) (va : Option Addr) (vc : Nat) (g oc : Nat) (wr : World) : Prop where
  ownD : wr.ownsRow w.heap.size 26 3 (.slice va D.length vc) D.length (rowCells D)
  ownO : wr.ownsRow w.heap.size 26 3 (.slice (some ⟨g, 0, none⟩) O.length oc) O.length (rowCells O)
  apart : ∀ z, (Value.slice va D.length vc).ownBlock = some z → z ≠ g
  todo : D.map Ke.t ++ bws (O.map Ke.t) = bw t
  each : ∀ e ∈ D ++ O, TyAt (LT n) wr e.t e.a e.cap
  below : Below w.heap.size w wr
  room : icnt (D.map Ke.t) ≤ R
theorem own_last {w : World} {B : Nat} {O : List Ke} {x : Ke} {g c : Nat} (h : w.ownsRow B 26 3 (.slice (some ⟨g, 0, none⟩) (O.length + 1) c) (O.length + 1) (rowCells (O ++ [x]))) :
    B ≤ g ∧ g < w.heap.size ∧ O.length + 1 ≤ c ∧ w.cell? ⟨g, O.length * 3, none⟩ = some (.int .i64 x.t.kind) ∧ w.cell? ⟨g, O.length * 3 + 1, none⟩ = some (.int .i64 x.t.num) ∧ w.cell? ⟨g, O.length * 3 + 2, none⟩ = some (.slice x.a x.t.kids.length x.cap) ∧
      w.ownsRow B 26 3 (.slice (some ⟨g, 0, none⟩) O.length c) O.length (rowCells O) := by
  rw [rowCells_snoc] at h
  have hc := h.cells (g := g) rfl
  have hl := rowCells_length O
  obtain ⟨h1, h2 | ⟨g', cap, cur, h3, h4, h5, h6, h7, h8, h9⟩⟩ := id h
  · omega
  · injection h3 with e1 e2 e3
    injection e1 with e1
    injection e1 with e1
    subst e1 e3
    have k : ∀ j u, (keCells x)[j]? = some u → w.cell? ⟨g, O.length * 3 + j, none⟩ = some u := fun j u hu => by
      have := hc (O.length * 3 + j) u (by rw [List.getElem?_append_right (by omega), hl, Nat.add_sub_cancel_left]; exact hu)
      rwa [add_flat, Nat.zero_add] at this
    exact ⟨h4, (Array.getElem?_eq_some_iff.1 h5).1, h6, k 0 _ rfl, k 1 _ rfl, k 2 _ rfl, own_take h (Nat.le_succ _) hl⟩
theorem len_le : ∀ l : List T, l.length ≤ Tp.sizes l
  | [] => Nat.le_refl _
  | t :: r => by have := len_le r; have := Tp.size_pos t; simp only [List.length_cons, Tp.sizes]; omega
theorem sizes_app : ∀ a b : List T, Tp.sizes (a ++ b) = Tp.sizes a + Tp.sizes b
  | [], b => by simp [Tp.sizes]
  | t :: r, b => by simp only [List.cons_append, Tp.sizes, sizes_app r b]; omega
set_option maxRecDepth 100000 in
set_option maxHeartbeats 4000000 in
theorem backwards_any (n : Nat) (t : T) (a : Option Addr) (cap R : Nat) (w : World) (hsz : Tp.size t ≤ 100000) (hR : R ≤ 1000000) (hn : n ≤ w.heap.size) (hty : TyAt (LT n) w t a cap) :
    Calls Try.prog 104 #[tv t a cap, .int .i64 (R : Int)] w (BwP n t R w) := by
  obtain ⟨k0, n0, m0, hv⟩ := TV.mk t
  rw [tv_of hv]
  obtain ⟨W2, hW2⟩ : ∃ W, (w.alloc (.cells #[.int .i64 k0, .int .i64 n0, .slice a m0 cap] 26)).alloc (.cells #[.int .i64 k0, .int .i64 n0, .slice a m0 cap] 26) = W := ⟨_, rfl⟩
  have hb2 : Below w.heap.size w W2 := by rw [← hW2]; exact ((Below.refl _ _).alloc (Nat.le_refl _) _).alloc (by simp) _
  have hx1 : W2.heap[w.heap.size + 1]? = some (.cells #[.int .i64 k0, .int .i64 n0, .slice a m0 cap] 26) := by rw [← hW2]; exact box2 _ _ _ _ _
  have hS : BwS n t R w [] [⟨t, a, cap⟩] none 0 (w.heap.size + 1) 1 W2 := by
    refine ⟨World.ownsRow_nil _ _ _ _, ⟨rfl, .inr ⟨w.heap.size + 1, 1, _, rfl, by omega, hx1, by simp, by unfold maxLen; omega, rfl, ?_⟩⟩, fun z h => (by cases h), ?_, fun e he => ?_, hb2, by simp [icnt]⟩
    · show [Value.int .i64 k0, .int .i64 n0, .slice a m0 cap] = rowCells [⟨t, a, cap⟩]
      rw [← hv.1, ← hv.2.1, ← hv.2.2]; rfl
    · simp [bws]
    · obtain rfl : e = ⟨t, a, cap⟩ := by simpa using he
      exact hty.below (hb2.mono hn) (fun _ h => h) (fun _ h => h)
  have HS := Lib.hid hS; have HW2 := Lib.hid hW2; have HSZ := Lib.hid hsz; have HR := Lib.hid hR; have HNW := Lib.hid hn
  clear hS hW2 hb2 hx1 hty hsz hR hn hv
  go_enter Try.func104, Try.ntmps104
  go_upto_region 3 with fail
  rw [HW2.out]
  go_loopg [1, 6, 7] (Tp.size t) (fun gk v1 v6 v7 wr => ∃ (D O : List Ke) (va : Option Addr) (vc g oc : Nat), v1 = .int .i64 ((R : Int) - (icnt (D.map Ke.t) : Int)) ∧ v6 = .slice va D.length vc ∧ v7 = .slice (some ⟨g, 0, none⟩) O.length oc ∧ BwS n t R w D O va vc g oc wr ∧ gk = Tp.size t - D.length)
  case atStart => exact ⟨[], [⟨t, a, cap⟩], none, 0, w.heap.size + 1, 1, by simp [icnt], rfl, rfl, HS.out, by simp⟩
  case round =>
    obtain ⟨D, O, va, vc, g, oc, rfl, rfl, rfl, hS, rfl⟩ := hrel
    have hlen : D.length + Tp.sizes (O.map Ke.t) = Tp.size t := by
      have h9 := congrArg List.length hS.todo
      rw [List.length_append, List.length_map, bws_len, bw_len] at h9; exact h9
    have HL := Lib.hid hlen; have HSS := Lib.hid hS
    clear hlen hS
    rcases List.eq_nil_or_concat O with rfl | ⟨P, x, hPx⟩
    · have htd := HSS.out.todo
      rw [List.map_nil, bws, List.append_nil] at htd
      have HTD := Lib.hid htd
      clear htd
      rw [List.length_nil]
      go_wp2_with fail
      refine bodyPost_ret (v := .tuple #[.slice va D.length vc, .bool true]) (by simp [results, Try.f104, go_sem]) rfl ?_
      refine ⟨HSS.out.below, ?_⟩
      rw [if_pos (by rw [← icnt_bw, ← HTD.out]; exact HSS.out.room)]
      exact ⟨va, vc, D, rfl, HTD.out, fun e he => HSS.out.each e (List.mem_append_left _ he), HSS.out.ownD⟩
    · rw [List.concat_eq_append] at hPx
      subst hPx
      have hown := HSS.out.ownO
      rw [List.length_append, List.length_singleton] at hown
      obtain ⟨o1, o2, o3, c0, c1, c2, hpop⟩ := own_last hown
      have htx := HSS.out.each x (by simp)
      have hap := HSS.out.apart
      have htd := HSS.out.todo
      have hln := HL.out
      rw [List.map_append, List.map_cons, List.map_nil] at htd hln
      rw [bws_append, bws, bws, List.nil_append, bw_eq] at htd
      obtain ⟨k, hk⟩ : ∃ k, P.length = k := ⟨_, rfl⟩
      rw [List.length_append, List.length_singleton, hk]
      rw [hk] at o3 c0 c1 c2 hpop
      obtain ⟨xk, xn, xm, hxv⟩ := TV.mk x.t
      rw [hxv.1] at c0
      rw [hxv.2.1] at c1
      rw [hxv.2.2] at c2
      have htop : wrap64 (k : Int) = (k : Int) := by
        have h9 : k + 1 ≤ Tp.size t := by
          have h8 := hln
          have h7 : (P.map Ke.t ++ [x.t]).length ≤ Tp.sizes (P.map Ke.t ++ [x.t]) := by
            have key : ∀ l : List T, l.length ≤ Tp.sizes l := fun l => by
              induction l with
              | nil => exact Nat.le_refl _
              | cons y r ih => have := Tp.size_pos y; simp only [List.length_cons, Tp.sizes]; omega
            exact key _
          rw [List.length_append, List.length_map, hk, List.length_singleton] at h7; omega
        have := HSZ.out; unfold wrap64; omega
      have i1 : 0 ≤ (k : Int) := by omega
      have i2 : (k : Int) < (k : Int) + 1 := by omega
      have HO := Lib.hid (And.intro o1 (And.intro o2 o3)); have HPOP := Lib.hid hpop; have HTX := Lib.hid htx; have HAP := Lib.hid hap; have HTD := Lib.hid htd; have HLN := Lib.hid hln; have HK := Lib.hid hk; have HXV := Lib.hid hxv
      clear hown o1 o2 o3 hpop htx hap htd hln hk hxv
      go_upto_region 6 with fail
      rw [htop]
      obtain ⟨W5, hW5⟩ : ∃ W, wr.alloc (.cells #[.int .i64 xk, .int .i64 xn, .slice x.a xm x.cap] 26) = W := ⟨_, rfl⟩
      rw [hW5]
      have hb5 : Below wr.heap.size wr W5 := by rw [← hW5]; exact (Below.refl _ _).alloc (Nat.le_refl _) _
      have hx5 : W5.heap[wr.heap.size]? = some (.cells #[.int .i64 xk, .int .i64 xn, .slice x.a xm x.cap] 26) := by rw [← hW5]; exact World.alloc_heap_new _ _
      have hz5 : W5.heap.size = wr.heap.size + 1 := by rw [← hW5, World.size_alloc]
      have hbw := HSS.out.below
      have hnw := HNW.out
      have htx5 : TyAt (LT n) W5.drew x.t x.a x.cap := TyAt.below HTX.out (hb5.mono (Nat.le_trans hnw hbw.size)).drew (fun _ h => h) (fun _ h => h)
      have hpo5 : W5.drew.ownsRow w.heap.size 26 3 (.slice (some ⟨g, 0, none⟩) k oc) k (rowCells P) := own_same HPOP.out (fun z hz => hb5.block z (HPOP.out.lt z hz).2)
      have hbig : k + x.t.kids.length ≤ 1000000 := by
        have h10 := HLN.out
        have h11 := HSZ.out
        have h9 := len_le x.t.kids
        have h8 := size_kids12 x.t
        have h7 := sizes_app (P.map Ke.t) [x.t]
        have h6 := len_le (P.map Ke.t)
        rw [List.length_map, HK.out] at h6
        simp only [Tp.sizes] at h7
        omega
      have hbas : w.heap.size ≤ W5.drew.heap.size := by
        have h9 := hbw.size
        show w.heap.size ≤ W5.heap.size
        omega
      obtain ⟨ks, g2, cap2, W6, m1, m2, hap, own6, gr6, or6⟩ := app_kids (xc := x.cap) hpo5 htx5.2.2.2.2 hbig hbas
      have hpp := ty_pop g (k + 1) oc k (by omega) HO.out.2.2
      have c0 : W5.cell? ⟨wr.heap.size, 0, none⟩ = some (.int .i64 xk) := cell_box hx5 rfl rfl
      have c1 : W5.cell? ⟨wr.heap.size, 1, none⟩ = some (.int .i64 xn) := cell_box hx5 rfl rfl
      have c2 : W5.cell? ⟨wr.heap.size, 2, none⟩ = some (.slice x.a xm x.cap) := cell_box hx5 rfl rfl
      rw [HXV.out.2.2] at hap own6
      have HAPP := Lib.hid hap; have HPP := Lib.hid hpp; have OWN6 := Lib.hid own6; have GR6 := Lib.hid gr6; have OR6 := Lib.hid or6; have M1 := Lib.hid m1; have M2 := Lib.hid m2; have HX5 := Lib.hid hx5; have HZ5 := Lib.hid hz5; have HB5 := Lib.hid hb5
      clear hap hpp own6 gr6 or6 m1 m2 hx5 hz5 hb5 hbw hnw hW5 htop i1 i2 hbig hbas htx5 hpo5
      by_cases hxm : xm = 0
      · subst hxm
        have hic : icnt [x.t] = 0 := by simp [icnt, HXV.out.2.2]
        have HIC := Lib.hid hic
        clear hic
        go_upto_region 10 with fail
        go_cut [7] from 200 (fun v wx => v = .slice (some ⟨g2, 0, none⟩) (k + 0) cap2 ∧ wx = W6)
        case first =>
          have hapo := HAPP.out
          have hpp := HPP.out
          go_region_law (first | (refine step_append_run rfl (.tmp 32) (.tmp 34) 24 rfl hapo ?_) | fail)
          all_goals
            go_wp2_with fail
            go_meet
            case rel => exact ⟨rfl, rfl⟩
        case rest =>
        obtain ⟨rfl, hwc⟩ := hcut
        rw [hwc]
        clear hwc wc c0 c1 c2
        have hx6 : W6.heap[wr.heap.size]? = some (.cells #[.int .i64 xk, .int .i64 xn, .slice x.a 0 x.cap] 26) := (GR6.out.block _ (by rw [show W5.drew.heap.size = W5.heap.size from rfl, HZ5.out]; omega) (fun e => by injection e with e; have := HO.out.2.1; omega)).trans HX5.out
        have hw6 : W5.heap.size ≤ W6.heap.size := GR6.out.size
        have hkeep : ∀ z, z < wr.heap.size → z ≠ g → W6.heap[z]? = wr.heap[z]? := fun z hz hne => (GR6.out.block z (by rw [show W5.drew.heap.size = W5.heap.size from rfl, HZ5.out]; omega) (fun e => hne (by injection e))).trans (HB5.out.block z hz)
        have hd6 : W6.ownsRow w.heap.size 26 3 (.slice va D.length vc) D.length (rowCells D) := own_same HSS.out.ownD (fun z hz => hkeep z (HSS.out.ownD.lt z hz).2 (HAP.out z hz))
        have c0 : W6.cell? ⟨wr.heap.size, 0, none⟩ = some (.int .i64 xk) := cell_box hx6 rfl rfl
        have c1 : W6.cell? ⟨wr.heap.size, 1, none⟩ = some (.int .i64 xn) := cell_box hx6 rfl rfl
        have c2 : W6.cell? ⟨wr.heap.size, 2, none⟩ = some (.slice x.a 0 x.cap) := cell_box hx6 rfl rfl
        obtain ⟨i0, hi, hz0, hz1, hz2⟩ := info_parts info_ty
        have hdl : D.length + 1 ≤ 100000 := by have h9 := HLN.out; have h7 := sizes_app (P.map Ke.t) [x.t]; have h6 := Tp.size_pos x.t; simp only [Tp.sizes] at h7; have := HSZ.out; omega
        have HD6 := Lib.hid hd6; have HW6 := Lib.hid hw6; have HKEEP := Lib.hid hkeep; have HDL := Lib.hid hdl
        have BA := Lib.hid (show D.length + 1 ≤ maxLen ∧ (D.length + 1) * 40 ≤ 140737488355328 by unfold maxLen; omega)
        have BB := Lib.hid (show w.heap.size ≤ (W6.alloc (.cells #[.int .i64 xk, .int .i64 xn, .slice x.a 0 x.cap] 26)).heap.size by have := HSS.out.below.size; have := HZ5.out; simp; omega)
        clear hx6 hd6 hw6 hkeep hdl
        go_wp2_with (at_builtin; refine wpList_append_lies _ rfl (.tmp 36) (.tmp 38) 24 rfl w.heap.size 26 i0 (.agg #[.int .i64 0, .int .i64 0, .slice none 0 0]) 3 40 Try.underlying24 hi hz0 hz1 hz2 rfl (by decide) (.slice va D.length vc) D.length (rowCells D) rfl (HD6.out.alloc _) ⟨W6.heap.size, 0, none⟩ 1 1 [.int .i64 xk, .int .i64 xn, .slice x.a 0 x.cap] rfl rfl (World.news_of_block (World.alloc_heap_new W6 _)) (three_one _ _ _ _ _) (by decide) BA.out.1 BA.out.2 BB.out (W6.heap.size + 1) (by simp) ?_; intro g3 cap3 W8 own8 gr8 or8 lt8; (have OWN8 := Lib.hid own8); (have GR8 := Lib.hid gr8); (have OR8 := Lib.hid or8); clear own8 gr8 or8 lt8 c0 c1 c2)
        go_roundg (Tp.size t - (D.length + 1))
        case measure => have h9 := HLN.out; have h7 := sizes_app (P.map Ke.t) [x.t]; have h6 := Tp.size_pos x.t; simp only [Tp.sizes] at h7; omega
        case rel =>
          have hbw := HSS.out.below.size; have hnw := HNW.out; have hz5 := HZ5.out; have hw6 := HW6.out; have hg := HO.out
          have h86 : ∀ z, z < W6.heap.size → (Value.slice va D.length vc).ownBlock ≠ some z → W8.heap[z]? = W6.heap[z]? := fun z hz hne => (GR8.out.block z (by rw [World.size_alloc]; omega) (fun e => hne e.symm)).trans (Below.heap_alloc _ _ _ hz)
          have hg2 : g2 < W6.heap.size ∧ ∀ z, (Value.slice va D.length vc).ownBlock = some z → z ≠ g2 := by
            rcases OR6.out with h | h
            · exact ⟨by omega, fun z hz => by rw [h]; exact HAP.out z hz⟩
            · have h' : g2 = W5.heap.size := h
              exact ⟨(OWN6.out.lt g2 rfl).2, fun z hz => by have := (HSS.out.ownD.lt z hz).2; omega⟩
          have hs8 : W6.heap.size + 1 ≤ W8.heap.size := by have := GR8.out.size; rw [World.size_alloc] at this; exact this
          have hd8 : W8.ownsRow w.heap.size 26 3 (.slice (some ⟨g3, 0, none⟩) (D.length + 1) cap3) (D.length + 1) (rowCells (D ++ [x])) := by
            have h9 := OWN8.out
            rw [rowCells_snoc]
            unfold keCells
            rw [HXV.out.1, HXV.out.2.1, HXV.out.2.2]; exact h9
          have hlow : ∀ z, z < n → W8.heap[z]? = W5.drew.heap[z]? := fun z hz => (h86 z (by omega) (fun e => by have := (HSS.out.ownD.lt z e).1; omega)).trans (GR6.out.block z (by show z < W5.heap.size; omega) (fun e => by injection e with e; omega))
          refine ⟨D ++ [x], P ++ ks, some ⟨g3, 0, none⟩, cap3, g2, cap2, ?_, by simp, by simp [List.length_append, HK.out, show ks.length = x.t.kids.length from by rw [← M1.out, List.length_map], HXV.out.2.2], ⟨?_, ?_, ?_, ?_, ?_, ?_, ?_⟩, by simp⟩
          · rw [List.map_append, List.map_cons, List.map_nil, icnt_append]
            rw [HIC.out, Nat.add_zero]
          · rw [List.length_append]; exact hd8
          · rw [List.length_append, HK.out, show ks.length = 0 by rw [← HXV.out.2.2, ← M1.out, List.length_map]]
            exact own_same OWN6.out (fun z hz => by
              obtain rfl : g2 = z := by injection hz
              exact h86 _ hg2.1 (fun e => hg2.2 _ e rfl))
          · intro z hz
            obtain rfl : g3 = z := by injection hz
            rcases OR8.out with h | h
            · exact hg2.2 _ h
            · have := hg2.1; omega
          · rw [List.map_append, List.map_append, bws_append, M1.out, ← HTD.out]; simp
          · intro e he
            have : e ∈ D ++ (P ++ [x]) ∨ e ∈ ks := by simp only [List.mem_append, List.mem_cons, List.not_mem_nil, or_false] at he ⊢; rcases he with (h | h) | h | h <;> simp [h]
            rcases this with h | h
            · refine ty_same (fun z hz => ?_) (fun _ h => h) (HSS.out.each e h)
              exact (hlow z hz).trans (HB5.out.block z (by have : z < n := hz; omega))
            · exact ty_same (fun z hz => hlow z hz) (fun _ h => h) (M2.out e h)
          · exact ⟨GR8.out.os.trans (GR6.out.os.trans (HB5.out.os.trans HSS.out.below.os)), GR8.out.tape.trans (GR6.out.tape.trans (HB5.out.tape.trans HSS.out.below.tape)), GR8.out.output.trans (GR6.out.output.trans (HB5.out.output.trans HSS.out.below.output)), by omega, fun z hz => (h86 z (by omega) (fun e => by have := (HSS.out.ownD.lt z e).1; omega)).trans ((HKEEP.out z (by omega) (by omega)).trans (HSS.out.below.block z hz))⟩
          · rw [List.map_append, List.map_cons, List.map_nil, icnt_append]
            rw [HIC.out, Nat.add_zero]; exact HSS.out.room
      · have hic : icnt [x.t] = 1 := by simp [icnt, HXV.out.2.2]; omega
        have hgt : decide (0 < xm) = true := by simp; omega
        obtain ⟨rm, hrm⟩ : ∃ rm : Nat, (R : Int) - (icnt (D.map Ke.t) : Int) = (rm : Int) := ⟨R - icnt (D.map Ke.t), by have := HSS.out.room; omega⟩
        rw [hrm]
        have HIC := Lib.hid hic; have HRM := Lib.hid hrm
        clear hic hrm
        by_cases h0 : rm = 0
        · have h0b : ((rm : Int) == 0) = true := by simp [h0]
          have H0 := Lib.hid h0
          clear h0
          go_wp2_with fail
          refine bodyPost_ret (v := .tuple #[.slice none 0 0, .bool false]) (by simp [results, Try.f104, go_sem]) rfl ?_
          refine ⟨HSS.out.below.trans (HB5.out.mono HSS.out.below.size), ?_⟩
          rw [if_neg]
          rw [← icnt_bw, ← HTD.out, icnt_append, show x.t :: bws x.t.kids ++ bws (P.map Ke.t) = [x.t] ++ (bws x.t.kids ++ bws (P.map Ke.t)) by simp, icnt_append, HIC.out]
          have := HRM.out; have := H0.out; omega
        · have h0b : ((rm : Int) == 0) = false := by simp; omega
          have H0 := Lib.hid h0
          have hwr : wrap64 ((rm : Int) - 1) = (rm : Int) - 1 := by have := HRM.out; have := HR.out; unfold wrap64; omega
          clear h0
          go_upto_region 10 with fail
          rw [hwr]
          clear hwr hgt
          go_cut [7] from 200 (fun v wx => v = .slice (some ⟨g2, 0, none⟩) (k + xm) cap2 ∧ wx = W6)
          case first =>
            have hapo := HAPP.out
            have hpp := HPP.out
            go_region_law (first | (refine step_append_run rfl (.tmp 32) (.tmp 34) 24 rfl hapo ?_) | fail)
            all_goals
              go_wp2_with fail
              go_meet
              case rel => exact ⟨rfl, rfl⟩
          case rest =>
          obtain ⟨rfl, hwc⟩ := hcut
          rw [hwc]
          clear hwc wc c0 c1 c2
          have hx6 : W6.heap[wr.heap.size]? = some (.cells #[.int .i64 xk, .int .i64 xn, .slice x.a xm x.cap] 26) := (GR6.out.block _ (by rw [show W5.drew.heap.size = W5.heap.size from rfl, HZ5.out]; omega) (fun e => by injection e with e; have := HO.out.2.1; omega)).trans HX5.out
          have hw6 : W5.heap.size ≤ W6.heap.size := GR6.out.size
          have hkeep : ∀ z, z < wr.heap.size → z ≠ g → W6.heap[z]? = wr.heap[z]? := fun z hz hne => (GR6.out.block z (by rw [show W5.drew.heap.size = W5.heap.size from rfl, HZ5.out]; omega) (fun e => hne (by injection e))).trans (HB5.out.block z hz)
          have hd6 : W6.ownsRow w.heap.size 26 3 (.slice va D.length vc) D.length (rowCells D) := own_same HSS.out.ownD (fun z hz => hkeep z (HSS.out.ownD.lt z hz).2 (HAP.out z hz))
          have c0 : W6.cell? ⟨wr.heap.size, 0, none⟩ = some (.int .i64 xk) := cell_box hx6 rfl rfl
          have c1 : W6.cell? ⟨wr.heap.size, 1, none⟩ = some (.int .i64 xn) := cell_box hx6 rfl rfl
          have c2 : W6.cell? ⟨wr.heap.size, 2, none⟩ = some (.slice x.a xm x.cap) := cell_box hx6 rfl rfl
          obtain ⟨i0, hi, hz0, hz1, hz2⟩ := info_parts info_ty
          have hdl : D.length + 1 ≤ 100000 := by have h9 := HLN.out; have h7 := sizes_app (P.map Ke.t) [x.t]; have h6 := Tp.size_pos x.t; simp only [Tp.sizes] at h7; have := HSZ.out; omega
          have HD6 := Lib.hid hd6; have HW6 := Lib.hid hw6; have HKEEP := Lib.hid hkeep; have HDL := Lib.hid hdl
          have BA := Lib.hid (show D.length + 1 ≤ maxLen ∧ (D.length + 1) * 40 ≤ 140737488355328 by unfold maxLen; omega)
          have BB := Lib.hid (show w.heap.size ≤ (W6.alloc (.cells #[.int .i64 xk, .int .i64 xn, .slice x.a xm x.cap] 26)).heap.size by have := HSS.out.below.size; have := HZ5.out; simp; omega)
          clear hx6 hd6 hw6 hkeep hdl
          go_wp2_with (at_builtin; refine wpList_append_lies _ rfl (.tmp 36) (.tmp 38) 24 rfl w.heap.size 26 i0 (.agg #[.int .i64 0, .int .i64 0, .slice none 0 0]) 3 40 Try.underlying24 hi hz0 hz1 hz2 rfl (by decide) (.slice va D.length vc) D.length (rowCells D) rfl (HD6.out.alloc _) ⟨W6.heap.size, 0, none⟩ 1 1 [.int .i64 xk, .int .i64 xn, .slice x.a xm x.cap] rfl rfl (World.news_of_block (World.alloc_heap_new W6 _)) (three_one _ _ _ _ _) (by decide) BA.out.1 BA.out.2 BB.out (W6.heap.size + 1) (by simp) ?_; intro g3 cap3 W8 own8 gr8 or8 lt8; (have OWN8 := Lib.hid own8); (have GR8 := Lib.hid gr8); (have OR8 := Lib.hid or8); clear own8 gr8 or8 lt8 c0 c1 c2)
          go_roundg (Tp.size t - (D.length + 1))
          case measure => have h9 := HLN.out; have h7 := sizes_app (P.map Ke.t) [x.t]; have h6 := Tp.size_pos x.t; simp only [Tp.sizes] at h7; omega
          case rel =>
            have hbw := HSS.out.below.size; have hnw := HNW.out; have hz5 := HZ5.out; have hw6 := HW6.out; have hg := HO.out
            have h86 : ∀ z, z < W6.heap.size → (Value.slice va D.length vc).ownBlock ≠ some z → W8.heap[z]? = W6.heap[z]? := fun z hz hne => (GR8.out.block z (by rw [World.size_alloc]; omega) (fun e => hne e.symm)).trans (Below.heap_alloc _ _ _ hz)
            have hg2 : g2 < W6.heap.size ∧ ∀ z, (Value.slice va D.length vc).ownBlock = some z → z ≠ g2 := by
              rcases OR6.out with h | h
              · exact ⟨by omega, fun z hz => by rw [h]; exact HAP.out z hz⟩
              · have h' : g2 = W5.heap.size := h
                exact ⟨(OWN6.out.lt g2 rfl).2, fun z hz => by have := (HSS.out.ownD.lt z hz).2; omega⟩
            have hs8 : W6.heap.size + 1 ≤ W8.heap.size := by have := GR8.out.size; rw [World.size_alloc] at this; exact this
            have hd8 : W8.ownsRow w.heap.size 26 3 (.slice (some ⟨g3, 0, none⟩) (D.length + 1) cap3) (D.length + 1) (rowCells (D ++ [x])) := by
              have h9 := OWN8.out
              rw [rowCells_snoc]
              unfold keCells
              rw [HXV.out.1, HXV.out.2.1, HXV.out.2.2]; exact h9
            have hlow : ∀ z, z < n → W8.heap[z]? = W5.drew.heap[z]? := fun z hz => (h86 z (by omega) (fun e => by have := (HSS.out.ownD.lt z e).1; omega)).trans (GR6.out.block z (by show z < W5.heap.size; omega) (fun e => by injection e with e; omega))
            refine ⟨D ++ [x], P ++ ks, some ⟨g3, 0, none⟩, cap3, g2, cap2, ?_, by simp, by simp [List.length_append, HK.out, show ks.length = x.t.kids.length from by rw [← M1.out, List.length_map], HXV.out.2.2], ⟨?_, ?_, ?_, ?_, ?_, ?_, ?_⟩, by simp⟩
            · rw [List.map_append, List.map_cons, List.map_nil, icnt_append]
              rw [HIC.out]; have := HRM.out; congr 1; omega
            · rw [List.length_append]; exact hd8
            · rw [List.length_append, HK.out, show ks.length = xm by rw [← HXV.out.2.2, ← M1.out, List.length_map]]
              exact own_same OWN6.out (fun z hz => by
                obtain rfl : g2 = z := by injection hz
                exact h86 _ hg2.1 (fun e => hg2.2 _ e rfl))
            · intro z hz
              obtain rfl : g3 = z := by injection hz
              rcases OR8.out with h | h
              · exact hg2.2 _ h
              · have := hg2.1; omega
            · rw [List.map_append, List.map_append, bws_append, M1.out, ← HTD.out]; simp
            · intro e he
              have : e ∈ D ++ (P ++ [x]) ∨ e ∈ ks := by simp only [List.mem_append, List.mem_cons, List.not_mem_nil, or_false] at he ⊢; rcases he with (h | h) | h | h <;> simp [h]
              rcases this with h | h
              · refine ty_same (fun z hz => ?_) (fun _ h => h) (HSS.out.each e h)
                exact (hlow z hz).trans (HB5.out.block z (by have : z < n := hz; omega))
              · exact ty_same (fun z hz => hlow z hz) (fun _ h => h) (M2.out e h)
            · exact ⟨GR8.out.os.trans (GR6.out.os.trans (HB5.out.os.trans HSS.out.below.os)), GR8.out.tape.trans (GR6.out.tape.trans (HB5.out.tape.trans HSS.out.below.tape)), GR8.out.output.trans (GR6.out.output.trans (HB5.out.output.trans HSS.out.below.output)), by omega, fun z hz => (h86 z (by omega) (fun e => by have := (HSS.out.ownD.lt z e).1; omega)).trans ((HKEEP.out z (by omega) (by omega)).trans (HSS.out.below.block z hz))⟩
            · rw [List.map_append, List.map_cons, List.map_nil, icnt_append]
              rw [HIC.out]; have := HRM.out; have := H0.out; omega
end Go.Proofs.Yteolbbgnkbcfmaa

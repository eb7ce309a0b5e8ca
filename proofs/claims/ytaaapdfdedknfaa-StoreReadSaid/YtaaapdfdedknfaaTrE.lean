/- Walks: the page's vars, Vars; Heavy. -/
import Derived.Test.YtaaapdfdedknfaaTkA
namespace Go.Proofs.Ytaaapdfdedknfaa
open Go Go.RowKit
open Tp (T)

theorem kid_in {n : Nat} {w wr : World} {t : T} {a : Option Addr} {cap : Nat} (h : TyAt (LT n) w t a cap) (hb : Below n w wr) {k : Nat} (hk : k < t.kids.length) :
    ∃ b o xa xcap, a = some ⟨b, o, none⟩ ∧ b < n ∧ TyAt (LT n) wr t.kids[k] xa xcap ∧ wr.cell? ⟨b, o + k * 3, none⟩ = some (.int .i64 t.kids[k].kind) ∧ wr.cell? ⟨b, o + k * 3 + 1, none⟩ = some (.int .i64 t.kids[k].num) ∧
      wr.cell? ⟨b, o + k * 3 + 2, none⟩ = some (.slice xa t.kids[k].kids.length xcap) := by
  have h2 := h.below hb (fun _ h => h) (fun b h => h)
  obtain ⟨b, o, rfl, hbn, hN⟩ := h2.2.2.2.2.first (by omega)
  obtain ⟨xa, xcap, q1, q2, q3, q4⟩ := (hN k hk).ty
  exact ⟨b, o, xa, xcap, rfl, hbn, q1, q2, q3, q4⟩
theorem varss_append : ∀ (l m : List T) (acc : List Int), Tp.varss (l ++ m) acc = Tp.varss m (Tp.varss l acc)
  | [], _, _ => rfl
  | t :: r, m, acc => by simp only [List.cons_append, Tp.varss, varss_append r m]
theorem varss_take (l : List T) (k : Nat) (h : k < l.length) (acc : List Int) : Tp.varss (l.take (k + 1)) acc = Tp.vars l[k] (Tp.varss (l.take k) acc) := by
  rw [List.take_succ_eq_append_getElem h, varss_append]; rfl
theorem vars_kids (t : T) (acc : List Int) : Tp.vars t acc = Tp.varss t.kids (Tp.addVar t.kind t.num acc) := by cases t; rfl
mutual
theorem vars_length : ∀ (t : T) (acc : List Int), (Tp.vars t acc).length ≤ acc.length + Tp.size t
  | .mk k n l, acc => by
    have h := varss_length l (Tp.addVar k n acc)
    have h2 : (Tp.addVar k n acc).length ≤ acc.length + 1 := by unfold Tp.addVar; split <;> simp
    simp only [Tp.vars, Tp.size]; omega
theorem varss_length : ∀ (l : List T) (acc : List Int), (Tp.varss l acc).length ≤ acc.length + Tp.sizes l
  | [], acc => by simp [Tp.varss, Tp.sizes]
  | t :: r, acc => by
    have h1 := vars_length t acc
    have h2 := varss_length r (Tp.vars t acc)
    simp only [Tp.varss, Tp.sizes]; omega
end
/-- What the page's vars hands back: the row, grown. -/
def VPost (B : Nat) (L : List Int) (v : Value) (w : World) (e : Ending) (w' : World) : Prop :=
  ∃ v', e = .returned v' ∧ w'.ownsRow B 3 1 v' L.length (L.map (Value.int .i64)) ∧ (w.heap.size ≤ w'.heap.size ∧ w'.os = w.os ∧ w'.tape = w.tape ∧ w'.output = w.output ∧ ∀ k, k < w.heap.size → v.ownBlock ≠ some k → w'.heap[k]? = w.heap[k]?) ∧ ∀ g, v'.ownBlock = some g → v.ownBlock = some g ∨ w.heap.size ≤ g
theorem info_int' : (Try.prog.info? 3).map (fun i => (i.zero, i.size, i.bytes)) = some (some (.int .i64 0), 1, 8) := by kernel_rfl
theorem b8' {n : Nat} (h : n ≤ 20000) : n + 1 ≤ maxLen ∧ (n + 1) * 8 ≤ 140737488355328 ∧ n ≤ 1000000 := by unfold maxLen; omega
/-- The page's loop over the kids: what has turned since. -/
structure Kept (B : Nat) (v0 : Value) (w0 wr : World) (v : Value) (acc : List Int) : Prop where
  own : wr.ownsRow B 3 1 v acc.length (acc.map (Value.int .i64))
  size : w0.heap.size ≤ wr.heap.size
  os : wr.os = w0.os
  tape : wr.tape = w0.tape
  output : wr.output = w0.output
  block : ∀ k, k < w0.heap.size → v0.ownBlock ≠ some k → wr.heap[k]? = w0.heap[k]?
  lies : ∀ g, v.ownBlock = some g → v0.ownBlock = some g ∨ w0.heap.size ≤ g
theorem Kept.refl {B : Nat} {v : Value} {w : World} {acc : List Int} (h : w.ownsRow B 3 1 v acc.length (acc.map (Value.int .i64))) : Kept B v w w v acc := ⟨h, Nat.le_refl _, rfl, rfl, rfl, fun _ _ _ => rfl, fun _ h => .inl h⟩
theorem Kept.trans {B : Nat} {v0 v v' : Value} {w0 w w' : World} {acc acc' : List Int} (h : Kept B v0 w0 w v acc) (k : Kept B v w w' v' acc') : Kept B v0 w0 w' v' acc' :=
  ⟨k.own, Nat.le_trans h.size k.size, k.os.trans h.os, k.tape.trans h.tape, k.output.trans h.output, fun i hi hn => (k.block i (Nat.lt_of_lt_of_le hi h.size) (fun e => (h.lies i e).elim hn (fun x => absurd hi (Nat.not_lt.2 x)))).trans (h.block i hi hn),
    fun g hg => by
      rcases k.lies g hg with x | x
      · exact h.lies g x
      · exact .inr (Nat.le_trans h.size x)⟩
theorem Kept.below {B : Nat} {v0 v : Value} {w0 w : World} {acc acc0 : List Int} (h : Kept B v0 w0 w v acc) (h0 : w0.ownsRow B 3 1 v0 acc0.length (acc0.map (Value.int .i64))) (hB : B ≤ w0.heap.size) : Below B w0 w :=
  ⟨h.os, h.tape, h.output, h.size, fun k hk => h.block k (Nat.lt_of_lt_of_le hk hB) (fun e => by have := (h0.lt k e).1; omega)⟩
theorem Kept.post {B : Nat} {v0 v : Value} {w0 w : World} {acc : List Int} (h : Kept B v0 w0 w v acc) : VPost B acc v0 w0 (.returned v) w := ⟨v, rfl, h.own, ⟨h.size, h.os, h.tape, h.output, h.block⟩, h.lies⟩
theorem VPost.kept {B : Nat} {v0 : Value} {w0 w : World} {acc : List Int} {e : Ending} (h : VPost B acc v0 w0 e w) : ∃ v, e = .returned v ∧ Kept B v0 w0 w v acc := by
  obtain ⟨v, h1, h2, ⟨a, b, c, d, f⟩, g⟩ := h
  exact ⟨v, h1, h2, a, b, c, d, f, g⟩
/-- A box of another type is none of the row's blocks. -/
theorem box_far {B n : Nat} {w : World} {v : Value} {xs : List Value} {b : Nat} {A : Array Value} {s : TypeId} (h : w.ownsRow B 3 1 v n xs) (hb : w.heap[b]? = some (.cells A s)) (hs : s ≠ 3) : v.ownBlock ≠ some b := fun e => by
  rcases h.2 with ⟨h1, _⟩ | ⟨g, cap, cur, h1, _, h3, _⟩
  · rw [h1] at e; cases e
  · rw [h1] at e; injection e with e; dsimp only at e; rw [e, hb] at h3; injection h3 with h3; injection h3 with h4 h5; exact hs h5
theorem Kept.alloc {B : Nat} {v : Value} {w : World} {acc : List Int} (h : w.ownsRow B 3 1 v acc.length (acc.map (Value.int .i64))) (o : Obj) : Kept B v w (w.alloc o) v acc :=
  ⟨h.alloc o, by simp, rfl, rfl, rfl, fun k hk _ => Below.heap_alloc _ _ _ hk, fun _ h => .inl h⟩
theorem Kept.push {B : Nat} {v : Value} {w w' : World} {o : Obj} {g cap : Nat} {acc : List Int} {x : Int} (hown : w'.ownsRow B 3 1 (.slice (some ⟨g, 0, none⟩) (acc.length + 1) cap) (acc.length + 1) (acc.map (Value.int .i64) ++ [.int .i64 x])) (hg : (w.alloc o).grownBy w' v.ownBlock) (hl : v.ownBlock = some g ∨ g = (w.alloc o).heap.size) :
    Kept B v w w' (.slice (some ⟨g, 0, none⟩) (acc.length + 1) cap) (acc ++ [x]) := by
  have hz := hg.size
  rw [World.size_alloc] at hz
  refine ⟨by rw [List.length_append, List.map_append]; exact hown, by omega, hg.os, hg.tape, hg.output, fun k hk hn => (hg.block k (by rw [World.size_alloc]; omega) (fun e => hn e.symm)).trans (Below.heap_alloc _ _ _ hk), fun y hy => ?_⟩
  injection hy with hy
  dsimp only at hy
  rcases hl with h | h
  · exact .inl (by rw [h, hy])
  · rw [World.size_alloc] at h; exact .inr (by omega)

theorem news1 (w : World) (A : Array Value) (s : TypeId) (x : Int) (u : TypeId) : ∀ j v, [Value.int .i64 x][j]? = some v → ((w.alloc (.cells A s)).alloc (.cells #[.int .i64 x] u)).cell? ((⟨w.heap.size + 1, 0, none⟩ : Addr).add j) = some v := fun j v hv =>
  World.news_of_block (box2 w A #[.int .i64 x] s u) j v hv

set_option maxRecDepth 100000 in
set_option maxHeartbeats 4000000 in
theorem rvars_any (B : Nat) : ∀ (n : Nat) (t : T) (a : Option Addr) (cap : Nat) (va : Option Addr) (vcap : Nat) (acc : List Int) (w : World), Tp.size t ≤ n → acc.length + Tp.size t ≤ 10000 → B ≤ w.heap.size → TyAt (LT B) w t a cap →
    w.ownsRow B 3 1 (.slice va acc.length vcap) acc.length (acc.map (Value.int .i64)) →
    Calls Try.prog 92 #[tv t a cap, .slice va acc.length vcap] w (VPost B (Tp.vars t acc) (.slice va acc.length vcap) w) := by
  intro n
  induction n with
  | zero => intro t a cap va vcap acc w h; have := Tp.size_pos t; omega
  | succ n ih =>
    intro t a cap va vcap acc w hn hs hB hty hown
    have hm10 : (t.kids.length : Int) ≤ 10000 := by have := Tp.length_le_sizes t.kids; have := size_kids t; omega
    have hac : acc.length ≤ 10000 := by omega
    have HN := Lib.hid hn; have HS := Lib.hid hs; have HTY := Lib.hid hty; have IH := Lib.hid ih; have HOWN := Lib.hid hown; have HBW := Lib.hid hB; clear hn hs hty ih hown hB
    obtain ⟨m, hm⟩ : ∃ m, t.kids.length = m := ⟨_, rfl⟩
    obtain ⟨kk, hkk⟩ : ∃ kk, t.kind = kk := ⟨_, rfl⟩
    obtain ⟨nn, hnn⟩ : ∃ kk, t.num = kk := ⟨_, rfl⟩
    obtain ⟨m0, hm0⟩ : ∃ m0, acc.length = m0 := ⟨_, rfl⟩
    have hvk : Tp.vars t acc = Tp.varss t.kids (Tp.addVar kk nn acc) := by rw [vars_kids, hkk, hnn]
    have hbox : (w.alloc (.cells #[.int .i64 t.kind, .int .i64 t.num, .slice a t.kids.length cap] 26)).heap[w.heap.size]? = some (.cells #[.int .i64 t.kind, .int .i64 t.num, .slice a t.kids.length cap] 26) := World.alloc_heap_new w _
    have hin : ∀ w', IntRow w' va acc → Calls Try.prog 82 #[.slice va m0 vcap, .int .i64 nn] w' fun e w'' => e = .returned (.bool (decide (nn ∈ acc))) ∧ w' = w'' := fun w' h => by rw [← hm0]; exact in_any acc va vcap nn w' (by omega) h
    have hrow0 : IntRow (w.alloc (.cells #[.int .i64 t.kind, .int .i64 t.num, .slice a t.kids.length cap] 26)) va acc := (IntRow.of_own (HOWN.out.alloc _)).2
    unfold tv
    rw [hm] at hm10 hbox hrow0 ⊢
    rw [hkk, hnn] at hbox hrow0 ⊢
    rw [hm0] at hac ⊢
    have HM := Lib.hid hm; have HKK := Lib.hid hkk; have HNN := Lib.hid hnn; have HM0 := Lib.hid hm0; have HVK := Lib.hid hvk; have HIN := Lib.hid hin; have HBOX := Lib.hid hbox; have HR0 := Lib.hid hrow0; clear hm hkk hnn hm0 hvk hin hbox hrow0
    have hown0 : w.ownsRow B 3 1 (.slice va m0 vcap) acc.length (acc.map (Value.int .i64)) := by have := HOWN.out; rw [HM0.out] at this; rw [HM0.out]; exact this
    have HOWN0 := Lib.hid hown0; clear hown0
    by_cases hk6 : kk = 6
    · subst hk6
      by_cases hna : nn ∈ acc
      · have hadd : Tp.addVar 6 nn acc = acc := by unfold Tp.addVar; rw [if_neg (fun h => h.2 hna)]
        have hd : decide (nn ∈ acc) = true := decide_eq_true hna
        rw [hd] at HIN
        have HADD := Lib.hid hadd; have HNA := Lib.hid hna; have HAL := Lib.hid (Nat.le_succ acc.length); clear hadd hna hd
        go_enter Try.func92, Try.ntmps92
        go_wp2_with (go_at_call 82; refine (HIN.out _ HR0.out).mono ?_; rintro e w' ⟨rfl, rfl⟩)
        have hk0 : Kept B (.slice va m0 vcap) w (w.alloc (.cells #[.int .i64 6, .int .i64 nn, .slice a m cap] 26)) (.slice va m0 vcap) acc := Kept.alloc HOWN0.out _
        have HBX := HBOX
        have HK0 := Lib.hid hk0; have HV := Lib.hid (show Tp.vars t acc = Tp.varss t.kids acc from by rw [HVK.out, HADD.out]); clear hk0
        go_loopg [1, 5] m (fun gk v i wr => ∃ k : Nat, k ≤ m ∧ i = .int .i64 k ∧ Kept B (.slice va m0 vcap) w wr v (Tp.varss (t.kids.take k) acc) ∧ wr.heap[w.heap.size]? = some (.cells #[.int .i64 6, .int .i64 nn, .slice a m cap] 26) ∧ gk = m - k)
        case atStart => exact ⟨0, Nat.zero_le _, rfl, HK0.out, HBX.out, rfl⟩
        case round =>
          obtain ⟨k, hk, rfl, hkp, hbx, rfl⟩ := hrel
          obtain ⟨wa, wcap, rfl⟩ := own_shapeT hkp.own
          have c2 : wr.cell? ⟨w.heap.size, 2, none⟩ = some (.slice a m cap) := cell_box hbx rfl rfl
          have hbw : Below B w wr := hkp.below HOWN0.out HBW.out
          have HKP := Lib.hid hkp; have HBX2 := Lib.hid hbx; have HBB := Lib.hid hbw; clear hkp hbx hbw
          by_cases hlt : k < m
          · have hkl : k < t.kids.length := by rw [HM.out]; exact hlt
            obtain ⟨b, o, xa, xcap, rfl, hbn, hx, x0, x1, x2⟩ := kid_in HTY.out HBB.out hkl
            have hst := varss_take t.kids k hkl acc
            have hsk := size_kid t.kids k hkl
            have hst2 := sizes_take t.kids k hkl
            have hst3 := sizes_take_le t.kids (k + 1)
            have hvl := varss_length (t.kids.take k) acc
            have hal := HAL.out
            have hss := size_kids t
            have hcall := IH.out t.kids[k] xa xcap wa wcap (Tp.varss (t.kids.take k) acc) wr (by have := HN.out; omega) (by have := HS.out; have := HM0.out; omega) (Nat.le_trans HBW.out HKP.out.size) hx HKP.out.own
            unfold tv at hcall
            obtain ⟨x, hx'⟩ : ∃ x, t.kids[k] = x := ⟨_, rfl⟩
            rw [hx'] at x0 x1 x2 hcall hst
            obtain ⟨L, hL⟩ : ∃ L, Tp.varss (t.kids.take k) acc = L := ⟨_, rfl⟩
            rw [hL] at hcall hst ⊢
            have HKP2 := Lib.hid (hL ▸ HKP.out)
            obtain ⟨mL, hmL⟩ : ∃ z, L.length = z := ⟨_, rfl⟩
            rw [hmL] at hcall ⊢
            have HC := Lib.hid hcall; have HST := Lib.hid hst; have HML := Lib.hid hmL
            clear hcall hst hx hx' hsk hst2 hst3 hvl hal hss hL hmL
            go_wp2_with (go_at_call 92; refine HC.out.mono ?_; rintro e w' hp; obtain ⟨v', rfl, hkp'⟩ := VPost.kept hp; have HKP' := Lib.hid hkp'; clear hp hkp')
            go_roundg (m - (k + 1))
            case measure => omega
            case rel => exact ⟨k + 1, by omega, by go_num, by rw [HST.out]; exact HKP2.out.trans (by rw [HML.out]; exact HKP'.out), (HKP'.out.block _ (Array.getElem?_eq_some_iff.1 HBX2.out).1 (by rw [← HML.out]; exact box_far HKP2.out.own HBX2.out (by decide))).trans HBX2.out, rfl⟩
          · obtain rfl : k = m := by omega
            have hp := HKP.out.post
            rw [List.take_of_length_le (by rw [HM.out]; exact Nat.le_refl _), ← HV.out] at hp ⊢
            have HP := Lib.hid hp; clear hp
            go_wp2_with fail
            go_ret
            exact HP.out
      · have hadd : Tp.addVar 6 nn acc = acc ++ [nn] := by unfold Tp.addVar; rw [if_pos ⟨rfl, hna⟩]
        have hd : decide (nn ∈ acc) = false := decide_eq_false hna
        rw [hd] at HIN
        have HADD := Lib.hid hadd; have HNA := Lib.hid hna; have HAL := Lib.hid (show (acc ++ [nn]).length ≤ acc.length + 1 from by simp); clear hadd hna hd
        have HOWNB := Lib.hid (show ((w.alloc (.cells #[.int .i64 6, .int .i64 nn, .slice a m cap] 26)).alloc (.cells #[.int .i64 nn] 3)).ownsRow B 3 1 (.slice va m0 vcap) m0 (acc.map (Value.int .i64)) from by have := (HOWN.out.alloc (.cells #[.int .i64 6, .int .i64 nn, .slice a m cap] 26)).alloc (.cells #[.int .i64 nn] 3); rw [HM0.out] at this; exact this)
        obtain ⟨i0, hi, hz0, hz1, hz2⟩ := info_parts info_int'
        have HB8 := Lib.hid (b8' (n := m0) (by omega))
        go_enter Try.func92, Try.ntmps92
        go_wp2_with (first | (go_at_call 82; refine (HIN.out _ HR0.out).mono ?_; rintro e w' ⟨rfl, rfl⟩) | (at_builtin; refine wpList_append_lies _ rfl (.tmp 16) (.tmp 19) 27 rfl B 3 i0 (.int .i64 0) 1 8 Try.underlying27 hi hz0 hz1 hz2 rfl (by decide) (.slice va m0 vcap) m0 (acc.map (Value.int .i64)) rfl HOWNB.out ⟨w.heap.size + 1, 0, none⟩ 1 1 [.int .i64 nn] rfl rfl (news1 w _ _ _ _) (by intro u hu; obtain rfl := List.mem_singleton.1 hu; rfl) (by decide) HB8.out.1 HB8.out.2.1 (Nat.le_trans HBW.out (by simp <;> omega)) _ rfl ?_; intro g2 cap2 w2 own2 gr2 ly2 _))
        have hk0 : Kept B (.slice va m0 vcap) w w2 (.slice (some ⟨g2, 0, none⟩) (m0 + 1) cap2) (acc ++ [nn]) := by
          have h1 : Kept B (.slice va m0 vcap) w (w.alloc (.cells #[.int .i64 6, .int .i64 nn, .slice a m cap] 26)) (.slice va m0 vcap) acc := Kept.alloc HOWN0.out _
          refine h1.trans ?_
          have h2 := Kept.push (acc := acc) (x := nn) (B := B) (w := w.alloc (.cells #[.int .i64 6, .int .i64 nn, .slice a m cap] 26)) (w' := w2) (v := .slice va m0 vcap) (g := g2) (cap := cap2) (by rw [HM0.out]; exact own2) gr2 ly2
          rw [HM0.out] at h2; exact h2
        have HBX := Lib.hid ((gr2.block w.heap.size (by simp <;> omega) (fun e => box_far (HOWN0.out.alloc _) HBOX.out (by decide) e.symm)).trans ((Below.heap_alloc _ _ _ (by simp)).trans HBOX.out))
        have G2 := Lib.hid gr2; have L2 := Lib.hid ly2; have O2 := Lib.hid own2
        clear gr2 ly2 own2 hi hz0 hz1 hz2
        have HK0 := Lib.hid hk0; have HV := Lib.hid (show Tp.vars t acc = Tp.varss t.kids (acc ++ [nn]) from by rw [HVK.out, HADD.out]); clear hk0
        go_loopg [1, 5] m (fun gk v i wr => ∃ k : Nat, k ≤ m ∧ i = .int .i64 k ∧ Kept B (.slice va m0 vcap) w wr v (Tp.varss (t.kids.take k) (acc ++ [nn])) ∧ wr.heap[w.heap.size]? = some (.cells #[.int .i64 6, .int .i64 nn, .slice a m cap] 26) ∧ gk = m - k)
        case atStart => exact ⟨0, Nat.zero_le _, rfl, HK0.out, HBX.out, rfl⟩
        case round =>
          obtain ⟨k, hk, rfl, hkp, hbx, rfl⟩ := hrel
          obtain ⟨wa, wcap, rfl⟩ := own_shapeT hkp.own
          have c2 : wr.cell? ⟨w.heap.size, 2, none⟩ = some (.slice a m cap) := cell_box hbx rfl rfl
          have hbw : Below B w wr := hkp.below HOWN0.out HBW.out
          have HKP := Lib.hid hkp; have HBX2 := Lib.hid hbx; have HBB := Lib.hid hbw; clear hkp hbx hbw
          by_cases hlt : k < m
          · have hkl : k < t.kids.length := by rw [HM.out]; exact hlt
            obtain ⟨b, o, xa, xcap, rfl, hbn, hx, x0, x1, x2⟩ := kid_in HTY.out HBB.out hkl
            have hst := varss_take t.kids k hkl (acc ++ [nn])
            have hsk := size_kid t.kids k hkl
            have hst2 := sizes_take t.kids k hkl
            have hst3 := sizes_take_le t.kids (k + 1)
            have hvl := varss_length (t.kids.take k) (acc ++ [nn])
            have hal := HAL.out
            have hss := size_kids t
            have hcall := IH.out t.kids[k] xa xcap wa wcap (Tp.varss (t.kids.take k) (acc ++ [nn])) wr (by have := HN.out; omega) (by have := HS.out; have := HM0.out; omega) (Nat.le_trans HBW.out HKP.out.size) hx HKP.out.own
            unfold tv at hcall
            obtain ⟨x, hx'⟩ : ∃ x, t.kids[k] = x := ⟨_, rfl⟩
            rw [hx'] at x0 x1 x2 hcall hst
            obtain ⟨L, hL⟩ : ∃ L, Tp.varss (t.kids.take k) (acc ++ [nn]) = L := ⟨_, rfl⟩
            rw [hL] at hcall hst ⊢
            have HKP2 := Lib.hid (hL ▸ HKP.out)
            obtain ⟨mL, hmL⟩ : ∃ z, L.length = z := ⟨_, rfl⟩
            rw [hmL] at hcall ⊢
            have HC := Lib.hid hcall; have HST := Lib.hid hst; have HML := Lib.hid hmL
            clear hcall hst hx hx' hsk hst2 hst3 hvl hal hss hL hmL
            go_wp2_with (go_at_call 92; refine HC.out.mono ?_; rintro e w' hp; obtain ⟨v', rfl, hkp'⟩ := VPost.kept hp; have HKP' := Lib.hid hkp'; clear hp hkp')
            go_roundg (m - (k + 1))
            case measure => omega
            case rel => exact ⟨k + 1, by omega, by go_num, by rw [HST.out]; exact HKP2.out.trans (by rw [HML.out]; exact HKP'.out), (HKP'.out.block _ (Array.getElem?_eq_some_iff.1 HBX2.out).1 (by rw [← HML.out]; exact box_far HKP2.out.own HBX2.out (by decide))).trans HBX2.out, rfl⟩
          · obtain rfl : k = m := by omega
            have hp := HKP.out.post
            rw [List.take_of_length_le (by rw [HM.out]; exact Nat.le_refl _), ← HV.out] at hp ⊢
            have HP := Lib.hid hp; clear hp
            go_wp2_with fail
            go_ret
            exact HP.out
    · have hadd : Tp.addVar kk nn acc = acc := by unfold Tp.addVar; rw [if_neg (fun h => hk6 h.1)]
      have g6 : (kk == 6) = false := by simp [hk6]
      have HADD := Lib.hid hadd; have HK6 := Lib.hid hk6; have HAL := Lib.hid (Nat.le_succ acc.length); clear hadd hk6
      go_enter Try.func92, Try.ntmps92
      go_wp2_with fail
      have hk0 : Kept B (.slice va m0 vcap) w (w.alloc (.cells #[.int .i64 kk, .int .i64 nn, .slice a m cap] 26)) (.slice va m0 vcap) acc := Kept.alloc HOWN0.out _
      have HBX := HBOX
      have HK0 := Lib.hid hk0; have HV := Lib.hid (show Tp.vars t acc = Tp.varss t.kids acc from by rw [HVK.out, HADD.out]); clear hk0
      go_loopg [1, 5] m (fun gk v i wr => ∃ k : Nat, k ≤ m ∧ i = .int .i64 k ∧ Kept B (.slice va m0 vcap) w wr v (Tp.varss (t.kids.take k) acc) ∧ wr.heap[w.heap.size]? = some (.cells #[.int .i64 kk, .int .i64 nn, .slice a m cap] 26) ∧ gk = m - k)
      case atStart => exact ⟨0, Nat.zero_le _, rfl, HK0.out, HBX.out, rfl⟩
      case round =>
        obtain ⟨k, hk, rfl, hkp, hbx, rfl⟩ := hrel
        obtain ⟨wa, wcap, rfl⟩ := own_shapeT hkp.own
        have c2 : wr.cell? ⟨w.heap.size, 2, none⟩ = some (.slice a m cap) := cell_box hbx rfl rfl
        have hbw : Below B w wr := hkp.below HOWN0.out HBW.out
        have HKP := Lib.hid hkp; have HBX2 := Lib.hid hbx; have HBB := Lib.hid hbw; clear hkp hbx hbw
        by_cases hlt : k < m
        · have hkl : k < t.kids.length := by rw [HM.out]; exact hlt
          obtain ⟨b, o, xa, xcap, rfl, hbn, hx, x0, x1, x2⟩ := kid_in HTY.out HBB.out hkl
          have hst := varss_take t.kids k hkl acc
          have hsk := size_kid t.kids k hkl
          have hst2 := sizes_take t.kids k hkl
          have hst3 := sizes_take_le t.kids (k + 1)
          have hvl := varss_length (t.kids.take k) acc
          have hal := HAL.out
          have hss := size_kids t
          have hcall := IH.out t.kids[k] xa xcap wa wcap (Tp.varss (t.kids.take k) acc) wr (by have := HN.out; omega) (by have := HS.out; have := HM0.out; omega) (Nat.le_trans HBW.out HKP.out.size) hx HKP.out.own
          unfold tv at hcall
          obtain ⟨x, hx'⟩ : ∃ x, t.kids[k] = x := ⟨_, rfl⟩
          rw [hx'] at x0 x1 x2 hcall hst
          obtain ⟨L, hL⟩ : ∃ L, Tp.varss (t.kids.take k) acc = L := ⟨_, rfl⟩
          rw [hL] at hcall hst ⊢
          have HKP2 := Lib.hid (hL ▸ HKP.out)
          obtain ⟨mL, hmL⟩ : ∃ z, L.length = z := ⟨_, rfl⟩
          rw [hmL] at hcall ⊢
          have HC := Lib.hid hcall; have HST := Lib.hid hst; have HML := Lib.hid hmL
          clear hcall hst hx hx' hsk hst2 hst3 hvl hal hss hL hmL
          go_wp2_with (go_at_call 92; refine HC.out.mono ?_; rintro e w' hp; obtain ⟨v', rfl, hkp'⟩ := VPost.kept hp; have HKP' := Lib.hid hkp'; clear hp hkp')
          go_roundg (m - (k + 1))
          case measure => omega
          case rel => exact ⟨k + 1, by omega, by go_num, by rw [HST.out]; exact HKP2.out.trans (by rw [HML.out]; exact HKP'.out), (HKP'.out.block _ (Array.getElem?_eq_some_iff.1 HBX2.out).1 (by rw [← HML.out]; exact box_far HKP2.out.own HBX2.out (by decide))).trans HBX2.out, rfl⟩
        · obtain rfl : k = m := by omega
          have hp := HKP.out.post
          rw [List.take_of_length_le (by rw [HM.out]; exact Nat.le_refl _), ← HV.out] at hp ⊢
          have HP := Lib.hid hp; clear hp
          go_wp2_with fail
          go_ret
          exact HP.out
end Go.Proofs.Ytaaapdfdedknfaa

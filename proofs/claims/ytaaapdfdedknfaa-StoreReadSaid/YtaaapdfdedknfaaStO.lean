/- slices.Contains over a row of numbers; store.lower. -/
import Derived.Test.YtaaapdfdedknfaaStN
namespace Go.Proofs.Ytaaapdfdedknfaa
open Go Go.RowKit
open Tp (T)
open Sg (Of Rt Den Dens Alk Mkd trav travs rootOf kidsOf)
/-- A row of numbers in block z, by places. -/
def NatsAt (w : World) (l : List Nat) (a : Option Addr) : Prop := ∀ i (h : i < l.length), ∃ b, a = some ⟨b, 0, none⟩ ∧ w.cell? ⟨b, i, none⟩ = some (.int .i64 (l[i] : Int))
theorem nats_own {w : World} {Bs : Nat} {l : List Nat} {v : Value} (h : w.ownsRow Bs 3 1 v l.length (natRow l)) : ∃ a c, v = .slice a l.length c ∧ NatsAt w l a ∧ ∀ b o, a = some ⟨b, o, none⟩ → Bs ≤ b ∧ b < w.heap.size := by
  rcases h.2 with ⟨h1, h2⟩ | ⟨g, cap, cur, h1, h2, h3, h4⟩
  · exact ⟨none, 0, by rw [h1, h2], fun i hi => by omega, fun b o e => by cases e⟩
  · subst h1
    refine ⟨_, _, rfl, fun i hi => ⟨g, rfl, ?_⟩, fun b o e => by injection e with e; injection e with e1 e2; subst e1; exact ⟨h2, (Array.getElem?_eq_some_iff.1 h3).1⟩⟩
    have := h.cells (g := g) rfl i (.int .i64 (l[i] : Int)) (by unfold natRow; rw [List.getElem?_map, List.getElem?_eq_getElem hi]; rfl)
    rwa [add_flat, Nat.zero_add] at this
set_option maxRecDepth 100000 in
theorem index12_any (l : List Nat) (x : Nat) (a : Option Addr) (c : Nat) (w : World) (hl : l.length ≤ 4000000) (h : NatsAt w l a) :
    Calls Try.prog 129 #[.slice a l.length c, .int .i64 (x : Int)] w fun e w' => (∃ k : Int, e = .returned (.int .i64 k) ∧ (0 ≤ k ↔ x ∈ l)) ∧ w' = w := by
  obtain ⟨n, hn⟩ : ∃ n, l.length = n := ⟨_, rfl⟩
  rw [hn]
  have HN := Lib.hid hn; have HL := Lib.hid hl; have HA := Lib.hid h
  clear hn hl h
  go_enter Try.func129, Try.ntmps129
  go_wp2_with fail
  go_loopg [8] n (fun gk v wr => ∃ k : Nat, k ≤ n ∧ v = .int .i64 (k : Int) ∧ wr = w ∧ ¬ x ∈ l.take k ∧ gk = n - k)
  case atStart => exact ⟨0, Nat.zero_le _, rfl, rfl, by simp, rfl⟩
  case round =>
    obtain ⟨k, hk, rfl, rfl, hno, rfl⟩ := hrel
    have HNO := Lib.hid hno; clear hno
    by_cases hlt : k < n
    · have hkl : k < l.length := by rw [HN.out]; exact hlt
      obtain ⟨b, rfl, hc⟩ := HA.out k hkl
      obtain ⟨y, hy⟩ : ∃ y, l[k] = y := ⟨_, rfl⟩
      rw [hy] at hc
      obtain ⟨i1, i2⟩ := pt_int hlt
      have HY := Lib.hid hy; clear hy
      by_cases hxy : x = y
      · subst hxy
        go_wp2_with fail
        go_ret
        exact ⟨⟨_, rfl, iff_of_true (Int.natCast_nonneg k) (by rw [← HY.out]; exact List.getElem_mem hkl)⟩, rfl⟩
      · have hb : ((x : Int) == (y : Int)) = false := by simp; omega
        have HN2 := Lib.hid (show ¬ x ∈ l.take (k + 1) from by
          rw [List.take_succ_eq_append_getElem hkl, List.mem_append, List.mem_singleton, HY.out]
          exact fun h => h.elim HNO.out hxy)
        go_wp2_with fail
        go_roundg (n - (k + 1))
        case measure => omega
        case rel => exact ⟨k + 1, hlt, by rw [wrapS (k := k) (by have := HL.out; have := HN.out; unfold maxLen; omega)], rfl, HN2.out, rfl⟩
    · obtain rfl : k = n := by omega
      go_wp2_with fail
      go_ret
      refine ⟨⟨_, rfl, iff_of_false (by decide) ?_⟩, rfl⟩
      have h := HNO.out
      rwa [← HN.out, List.take_length] at h
theorem contains12_any (l : List Nat) (x : Nat) (a : Option Addr) (c : Nat) (w : World) (hl : l.length ≤ 4000000) (h : NatsAt w l a) :
    Calls Try.prog 93 #[.slice a l.length c, .int .i64 (x : Int)] w fun e w' => e = .returned (.bool (decide (x ∈ l))) ∧ w' = w := by
  have hi := index12_any l x a c w hl h
  clear hl h
  go_enter Try.func93, Try.ntmps93
  go_wp2_with fail
  refine hi.mono ?_
  rintro e w2 ⟨⟨k, rfl, hk⟩, rfl⟩
  have HK := Lib.hid hk; clear hk hi
  go_wp2_with fail
  go_ret
  exact ⟨by simp [HK.out], rfl⟩
/-- A level that is lowered. -/
def lowAt (H : List SNd) (v : Nat) (lv : Int) : List SNd := match H[v]? with | some d => H.set v { d with c := { d.c with level := min d.c.level lv } } | none => H
def lows (H : List SNd) (l : List Nat) (lv : Int) : List SNd := l.foldl (fun H v => lowAt H v lv) H
theorem lowAt_some {H : List SNd} {v : Nat} {d : SNd} (h : H[v]? = some d) (lv : Int) : lowAt H v lv = H.set v { d with c := { d.c with level := min d.c.level lv } } := by unfold lowAt; rw [h]
theorem lowAt_len (H : List SNd) (v : Nat) (lv : Int) : (lowAt H v lv).length = H.length := by unfold lowAt; split <;> simp
theorem lows_len (l : List Nat) (lv : Int) : ∀ H : List SNd, (lows H l lv).length = H.length := by
  induction l with
  | nil => intro H; rfl
  | cons v r ih => intro H; show (lows (lowAt H v lv) r lv).length = _; rw [ih, lowAt_len]
theorem lows_snoc (H : List SNd) (l : List Nat) (v : Nat) (lv : Int) : lows H (l ++ [v]) lv = lowAt (lows H l lv) v lv := by unfold lows; rw [List.foldl_append]; rfl
section
variable {B s g cap : Nat} {L C K : Int} {w : World} {H : List SNd}
set_option maxRecDepth 100000 in
set_option maxHeartbeats 2000000 in
theorem lower12_any (h : SV B s g cap L C K w H) (l : List Nat) (lv : Int) (a : Option Addr) (c : Nat) (hl : l.length ≤ 4000000) (ha : NatsAt w l a) (hab : ∀ b o, a = some ⟨b, o, none⟩ → b ≠ g ∧ b < w.heap.size) (hv : ∀ v ∈ l, v < H.length) :
    Calls Try.prog 94 #[.pointer (some ⟨s, 0, none⟩), .slice a l.length c, .int .i64 lv] w fun e w' => (∃ u, e = .returned u) ∧ SV B s g cap L C K w' (lows H l lv) ∧ Kp w.heap.size (fun k => k = g) w w' := by
  obtain ⟨n, hn⟩ : ∃ n, l.length = n := ⟨_, rfl⟩
  rw [hn]
  have HN := Lib.hid hn; have HL := Lib.hid hl; have HA := Lib.hid ha; have HAB := Lib.hid hab; have HV := Lib.hid hv; have HSV := Lib.hid h
  clear hn hl ha hab hv h
  go_enter Try.func94, Try.ntmps94
  go_wp2_with fail
  go_loopg [10] n (fun gk v wr => ∃ k : Nat, k ≤ n ∧ v = .int .i64 (k : Int) ∧ SV B s g cap L C K wr (lows H (l.take k) lv) ∧ Kp w.heap.size (fun k => k = g) w wr ∧ gk = n - k)
  case atStart => exact ⟨0, Nat.zero_le _, rfl, HSV.out, Kp.refl _ _ _, rfl⟩
  case round =>
    obtain ⟨k, hk, rfl, hsv, hkp, rfl⟩ := hrel
    have HSVK := Lib.hid hsv; have HKP := Lib.hid hkp; clear hsv hkp
    by_cases hlt : k < n
    · have hkl : k < l.length := by rw [HN.out]; exact hlt
      obtain ⟨b, rfl, hc⟩ := HA.out k hkl
      obtain ⟨hbg, hbw⟩ := HAB.out b 0 rfl
      have hc2 := HKP.out.cell hc hbw hbg
      obtain ⟨y, hy⟩ : ∃ y, l[k] = y := ⟨_, rfl⟩
      rw [hy] at hc2
      obtain ⟨i1, i2⟩ := pt_int hlt
      have hyl : y < (lows H (l.take k) lv).length := by rw [lows_len]; exact HV.out y (by rw [← hy]; exact List.getElem_mem hkl)
      obtain ⟨d, hd⟩ : ∃ d, (lows H (l.take k) lv)[y]? = some d := ⟨_, List.getElem?_eq_getElem hyl⟩
      obtain ⟨q0, q1⟩ := pt_int hyl
      obtain ⟨c0, c1, c2, c3⟩ := HSVK.out.sbox
      have cl := (HSVK.out.node hd).2.1
      have fl : wr.frozen? ⟨g, y * 6 + 1, none⟩ = false := HSVK.out.thaw _
      have hsay := HSVK.out.say hd { d.c with level := min d.c.level lv } (.int .i64 (min d.c.level lv)) (j := 1) (by omega) (fun u => rfl)
      rw [← lowAt_some hd, ← lows_snoc] at hsay
      have htk : l.take k ++ [y] = l.take (k + 1) := by rw [List.take_succ_eq_append_getElem hkl, hy]
      rw [htk] at hsay
      obtain ⟨N, hN⟩ : ∃ N, (lows H (l.take k) lv).length = N := ⟨_, rfl⟩
      rw [hN] at c2 q1
      have HSAY := Lib.hid hsay
      obtain ⟨dl, hdl⟩ : ∃ x, d.c.level = x := ⟨_, rfl⟩
      rw [hdl] at cl
      have HDL := Lib.hid hdl
      clear hsay htk hd hy hyl hc hbg hbw hN hdl
      go_upto_region 3 with fail
      have hmin : (if lv < dl then lv else dl) = min dl lv := by split <;> omega
      obtain ⟨V, hV⟩ : ∃ V, wr.setCell ⟨g, y * 6 + 1, none⟩ (.int .i64 (min d.c.level lv)) = V := ⟨_, rfl⟩
      have hkpV : Kp w.heap.size (fun k => k = g) w V := by rw [← hV]; exact HKP.out.setCell (.inr rfl) _
      have hsvV := HSAY.out
      rw [hV] at hsvV
      rw [HDL.out] at hV
      have HV2 := Lib.hid hV; have HKV := Lib.hid hkpV; have HSV2 := Lib.hid hsvV
      clear hV hkpV hsvV
      go_region_law (fail)
      all_goals
        try rw [hmin]
        rw [HV2.out]
        clear c0 c1 c2 c3 cl fl hc2 hmin q0 q1
        go_wp2_with fail
        go_roundg (n - (k + 1))
        case measure => omega
        case rel => exact ⟨k + 1, hlt, by rw [wrapS (k := k) (by have := HL.out; have := HN.out; unfold maxLen; omega)], HSV2.out.same rfl rfl, HKV.out.drew, rfl⟩
    · obtain rfl : k = n := by omega
      go_wp2_with fail
      go_end0
      refine ⟨⟨_, rfl⟩, ?_, HKP.out⟩
      have h := HSVK.out
      rwa [← HN.out, List.take_length] at h
end
end Go.Proofs.Ytaaapdfdedknfaa

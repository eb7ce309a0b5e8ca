/- slices.Clone at api.Type. -/
import Derived.Test.YtncdbbjkafgphaaCln
import Derived.Test.YtncdbbjkafgphaaAgM
import Derived.Shelf.RegionOpenPlain
import Derived.WalkKit
import Derived.Deep.LoopGhost
import Derived.Lib.Walk
import Derived.Lib.SliceRun
namespace Go.Proofs.Ytncdbbjkafgphaa
open Go Go.Shelf Go.RowKit Go.Lib Go.Proofs

set_option maxHeartbeats 2000000 in
set_option maxRecDepth 100000 in
theorem clone_zeroT {P : Program} {ρ : Ren} (L : SlLaysE0.n41 P ρ) (i0 : TypeInfo) (z : Value) (size bytes : Nat) (hi : P.info? (ρ.t 23) = some i0) (hz0 : i0.zero = some z) (hz1 : i0.size = size) (hz2 : i0.bytes = bytes) (hzs : z.cells.size = size) (hsz : 0 < size)
    (z23 : ∀ w, (Go.sizeOf (ρ.t 23)).run P w = .ok size w) (p : Addr) (c : Nat) (w : World) :
    Calls P (ρ.f 41) #[.slice (some p) 0 c] w fun e w' => ∃ v', e = .returned v' ∧ w'.ownsRow w.heap.size (ρ.t 23) size v' 0 [] ∧ v' ≠ .slice none 0 0 ∧ Below w.heap.size w w' := by
  have mixed := L.mixed; have t4 := L.t4; have a4 := L.a4; have z4 := L.z4; have v4 := L.v4; have t22 := L.t22; have a22 := L.a22; have z22 := L.z22; have v22 := L.v22
  have q22 : ∀ (w : World) (a : Option Addr) (n c n' c' : Nat), (binOp .eql (ρ.t 22) (.slice a n c) (.slice none n' c')).run P w = .ok (.bool a.isNone) w := fun w a n c n' c' => Lib.run_eql_slice_nil w _ _ a n c n' c' L.t22
  have u22 : ∀ w, Sem.run P (underlying (ρ.t 22)) w = .ok (TypeDesc.slice (ρ.t 23)) w := run_underlying t22
  obtain ⟨_, _, FG⟩ := L.f41
  go_enter FG, SlBodyN.n41_ntmps ρ
  go_wp2_with (at_builtin; refine wpList_append_own _ rfl _ _ (ρ.t 22) rfl w.heap.size (ρ.t 23) i0 z size bytes t22 hi hz0 hz1 hz2 hzs hsz _ _ _ rfl (World.ownsRow_made w #[] 0 (Nat.le_refl _) (Nat.zero_le _) (by simp)) p 0 c [] rfl ?qc1 ?qc2 ?qc3 ?qc4 ?qc5 ?qc6 ?_)
  case qc1 => simp
  case qc2 =>
    intro j u hj
    simp at hj
  case qc3 =>
    intro u hu
    cases hu
  case qc4 => exact Nat.zero_le _
  case qc5 => simp
  case qc6 => simp
  intro v' w1 hown hgrow hnil
  go_wp2
  go_ret
  refine ⟨v', rfl, by simpa using hown, ?_, ?_⟩
  · simpa using hnil
  · exact ((Below.refl _ w).alloc (Nat.le_refl _) _).grown hgrow (by simp) (by intro k hk; simp [Value.ownBlock] at hk; omega)
theorem info_typs : ((Try.prog.info? 24).bind fun i => i.zero.map fun z => (i.size, i.bytes, z.cells.size)) = some (3, 40, 3) := by kernel_rfl
theorem size_typs (w : World) : (Go.sizeOf 24).run Try.prog w = .ok 3 w := by kernel_rfl
open Tp (T)
/-- What Clone hands back of a row of types. -/
def ClPost (l : List T) (news : List Value) (w : World) (e : Ending) (w' : World) : Prop := ∃ v', e = .returned v' ∧ Below w.heap.size w w' ∧
  ((l = [] ∧ ∃ a c, v' = .slice a 0 c ∧ c ≤ maxLen) ∨ (∃ kb c, v' = .slice (some ⟨kb, 0, none⟩) l.length c ∧ c ≤ maxLen ∧ l.length ≤ c ∧ w.heap.size ≤ kb ∧ kb < w'.heap.size ∧ w'.ownsRow w.heap.size 24 3 (.slice (some ⟨kb, 0, none⟩) l.length c) l.length news))
theorem cloneT_row {G : Nat → Prop} {W : World} (l : List T) (a : Option Addr) (c : Nat) (news : List Value) (w : World) (hl : l.length ≤ 2) (hn : news.length = l.length * 3) (hk : KidsAt G W l a) (hc : ∀ b o, a = some ⟨b, o, none⟩ → ∀ j u, news[j]? = some u → w.cell? ⟨b, o + j, none⟩ = some u) (h1 : ∀ u ∈ news, u.oneCell' = true) :
    Calls Try.prog 56 #[.slice a l.length c] w (ClPost l news w) := by
  obtain ⟨i0, hi0, hz⟩ := Option.bind_eq_some_iff.1 info_typs
  obtain ⟨z, hz0, hz1⟩ := Option.map_eq_some_iff.1 hz
  injection hz1 with z1 z2
  injection z2 with z2 z3
  have fin : ∀ (e : Ending) (w' : World), (∃ v', e = .returned v' ∧ w'.ownsRow w.heap.size 24 3 v' l.length news ∧ v' ≠ .slice none 0 0 ∧ Below w.heap.size w w') → ClPost l news w e w' := by
    rintro e w' ⟨v', rfl, hown, hne, hb⟩
    refine ⟨v', rfl, hb, ?_⟩
    obtain ⟨g1, ⟨g2, g3⟩ | ⟨g, cap, cur, h3, h4, h5, h6, h7, h8⟩⟩ := id hown
    · exact absurd g2 hne
    · subst h3
      exact .inr ⟨g, cap, rfl, h7, h6, h4, (Array.getElem?_eq_some_iff.1 h5).1, hown⟩
  cases l with
  | nil =>
    have hnn : news = [] := List.eq_nil_of_length_eq_zero (by simpa using hn)
    subst hnn
    cases a with
    | none =>
      refine (Try.cloneT_nil 0 c w).mono ?_
      rintro e w' ⟨rfl, rfl⟩
      exact ⟨_, rfl, Below.refl _ _, .inl ⟨rfl, none, 0, rfl, Nat.zero_le _⟩⟩
    | some p =>
      exact (clone_zeroT Try.laysCloneT i0 z 3 40 hi0 hz0 z1 z2 z3 (by decide) size_typs p c w).mono fin
  | cons x r =>
    obtain ⟨b, o, rfl, _⟩ := hk.head
    exact (Try.cloneT_any i0 z 40 hi0 hz0 z1 z2 z3 size_typs b o (x :: r).length c news w hn (by unfold maxLen; omega) (by omega) (hc b o rfl) h1).mono fin
end Go.Proofs.Ytncdbbjkafgphaa

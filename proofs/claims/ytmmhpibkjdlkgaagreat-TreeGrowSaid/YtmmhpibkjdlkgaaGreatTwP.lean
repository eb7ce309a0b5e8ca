/- The statements' own sample, plainly. suretylaw05's own sample, walked. -/
import Derived.Test.YtmmhpibkjdlkgaaGreatTwA
import Derived.Test.YtmmhpibkjdlkgaaGreatTbE
import Derived.Test.YtmmhpibkjdlkgaaGreatTeA
import Derived.Test.YtmmhpibkjdlkgaaGreatWtW
import Derived.Test.YtmmhpibkjdlkgaaGreatTsI
import Derived.Test.YtmmhpibkjdlkgaaGreatTnE
import Derived.Test.YtmmhpibkjdlkgaaGreatTvB
import Derived.Test.YtmmhpibkjdlkgaaGreatFrW
namespace Go.Proofs.YtmmhpibkjdlkgaaGreat
open Go Go.RowKit Go.Shelf
open Ex (E)

def noT : Tp.T := .mk 0 0 []
def pairE : E := .mk 6 0 0 [] [] 0 [] 0 noT noT [] [nameE [120], nameE [121]]
def WE : E := .mk 9 0 0 [120] [] 0 [] 0 (.mk 5 0 []) noT [] [pairE]
def WF : E := .mk 9 0 0 [120] [] 0 [] 0 (.mk 1 0 []) noT [] [pairE]
theorem we_right : Ex.right WE = true := by kernel_rfl
theorem we_zero : Ex.right Ex.zero = false := by kernel_rfl
theorem we_size : Ex.size WE = 4 := by kernel_rfl
theorem we_depth : Ex.depth WE = 3 := by kernel_rfl
theorem we_anns : (Ex.anns WE).length = 1 := by kernel_rfl
theorem we_value : (Ex.right WE && Ex.value WE) = true := by kernel_rfl
theorem we_same : Ex.same WE WE = true := by kernel_rfl
theorem we_any : Tr.right (.mk 1 0 0 0 [] [] []) = true := by kernel_rfl
theorem we_with : withOf WE [.mk 1 0 []] = (WF, 0) := by kernel_rfl
theorem we_fr : Ex.fr WE [] = [[121]] := by kernel_rfl
theorem we_free : Ex.free WE = [[121]] := by
  unfold Ex.free
  rw [we_fr]
  have : strKeys (txSet [[121]]) = [[121]] := by kernel_rfl
  rw [this]; simp
theorem we_fine : Ex.FineAll WE := by
  have hn : ∀ k : E, k = WE ∨ k = pairE ∨ k = nameE [120] ∨ k = nameE [121] → Ex.Fine k := by
    rintro k (rfl | rfl | rfl | rfl) <;> exact ⟨by decide, by decide, by decide, by decide, fun _ h => by cases h⟩
  refine ⟨by rw [we_size]; omega, fun k hk => hn _ ?_⟩
  have e : Ex.pre WE 1 = [(WE, 0, 1), (pairE, 0, 2), (nameE [120], 0, 3), (nameE [121], 0, 3)] := rfl
  rw [e] at hk
  simp only [List.mem_cons, List.not_mem_nil, or_false] at hk
  rcases hk with rfl | rfl | rfl | rfl
  · exact .inl rfl
  · exact .inr (.inl rfl)
  · exact .inr (.inr (.inl rfl))
  · exact .inr (.inr (.inr rfl))
theorem zero_fine : Ex.FineAll Ex.zero := by
  refine ⟨by decide, fun k hk => ?_⟩
  have e : Ex.pre Ex.zero 1 = [(Ex.zero, 0, 1)] := rfl
  rw [e] at hk
  obtain rfl := List.mem_singleton.1 hk
  exact ⟨by decide, by decide, by decide, by decide, fun _ h => by cases h⟩
theorem name_at (G : Nat → Prop) (W : World) (s : List UInt8) : ExAt G W (nameE s) noL :=
  ex_at ⟨i64_small (by omega), i64_small (by omega), i64_small (by omega)⟩ (ty_leaf G W (i64_small (by omega)) (i64_small (by omega))) (ty_leaf G W (i64_small (by omega)) (i64_small (by omega))) ⟨Nat.le_refl _, Nat.zero_le _⟩ (by show PKids G W [] none; simp [PKids]) ⟨Nat.le_refl _, Nat.zero_le _⟩ (by show EKids G W [] none; simp [EKids])
def pairL (b : Nat) : Leads := ⟨none, 0, none, 0, none, 0, some ⟨b, 0, none⟩, 2⟩
def weL (b : Nat) : Leads := ⟨none, 0, none, 0, none, 0, some ⟨b, 0, none⟩, 1⟩
/-- The sample, where it lies. -/
theorem we_at {G : Nat → Prop} {W : World} {b : Nat} {t : TypeId} (h1 : W.heap[b]? = some (.cells (elCells [(nameE [120], noL), (nameE [121], noL)]).toArray t)) (h2 : W.heap[b + 1]? = some (.cells (elCells [(pairE, pairL b)]).toArray t)) (hb : G b) (hb1 : G (b + 1)) : ExAt G W WE (weL (b + 1)) := by
  have hz : TyAt G W noT none 0 := ty_leaf G W (i64_small (by omega)) (i64_small (by omega))
  have hp : ExAt G W pairE (pairL b) := ex_at ⟨i64_small (by omega), i64_small (by omega), i64_small (by omega)⟩ hz hz ⟨Nat.le_refl _, Nat.zero_le _⟩ (by show PKids G W [] none; simp [PKids]) ⟨Nat.le_refl _, by show 2 ≤ maxLen; unfold maxLen; omega⟩
    (el_row [(nameE [120], noL), (nameE [121], noL)] h1 hb (fun x hx => by
      simp only [List.mem_cons, List.not_mem_nil, or_false] at hx
      rcases hx with rfl | rfl <;> exact name_at G W _))
  exact ex_at ⟨i64_small (by omega), i64_small (by omega), i64_small (by omega)⟩ (ty_leaf G W (i64_small (by omega)) (i64_small (by omega))) hz ⟨Nat.le_refl _, Nat.zero_le _⟩ (by show PKids G W [] none; simp [PKids]) ⟨Nat.le_refl _, by show 1 ≤ maxLen; unfold maxLen; omega⟩
    (el_row [(pairE, pairL b)] h2 hb1 (fun x hx => by
      obtain rfl := List.mem_singleton.1 hx
      exact hp))
theorem we_ev (b : Nat) : ev WE (weL b) = .agg #[.int .i64 9, .int .i64 0, .int .i64 0, .string ⟨#[120]⟩, .string ⟨#[]⟩, .int .i64 0, .string ⟨#[]⟩, .int .i64 0, .int .i64 5, .int .i64 0, .slice none 0 0, .int .i64 0, .int .i64 0, .slice none 0 0, .slice none 0 0, .slice (some ⟨b, 0, none⟩) 1 1] := rfl
theorem we_evF (s' : Leads) : ev WF s' = .agg #[.int .i64 9, .int .i64 0, .int .i64 0, .string ⟨#[120]⟩, .string ⟨#[]⟩, .int .i64 0, .string ⟨#[]⟩, .int .i64 0, .int .i64 1, .int .i64 0, .slice s'.aa 0 s'.ac, .int .i64 0, .int .i64 0, .slice s'.ba 0 s'.bc, .slice s'.pa 0 s'.pc, .slice s'.ka 1 s'.kc] := rfl
theorem we_evZ : ev Ex.zero noLeads = .agg #[.int .i64 0, .int .i64 0, .int .i64 0, .string ⟨#[]⟩, .string ⟨#[]⟩, .int .i64 0, .string ⟨#[]⟩, .int .i64 0, .int .i64 0, .int .i64 0, .slice none 0 0, .int .i64 0, .int .i64 0, .slice none 0 0, .slice none 0 0, .slice none 0 0] := rfl
theorem we_row1 : (elCells [(nameE [120], noL), (nameE [121], noL)]).toArray = #[.int .i64 1, .int .i64 0, .int .i64 0, .string ⟨#[120]⟩, .string ⟨#[]⟩, .int .i64 0, .string ⟨#[]⟩, .int .i64 0, .int .i64 0, .int .i64 0, .slice none 0 0, .int .i64 0, .int .i64 0, .slice none 0 0, .slice none 0 0, .slice none 0 0, .int .i64 1, .int .i64 0, .int .i64 0, .string ⟨#[121]⟩, .string ⟨#[]⟩, .int .i64 0, .string ⟨#[]⟩, .int .i64 0, .int .i64 0, .int .i64 0, .slice none 0 0, .int .i64 0, .int .i64 0, .slice none 0 0, .slice none 0 0, .slice none 0 0] := rfl
theorem we_row2 (b : Nat) : (elCells [(pairE, pairL b)]).toArray = #[.int .i64 6, .int .i64 0, .int .i64 0, .string ⟨#[]⟩, .string ⟨#[]⟩, .int .i64 0, .string ⟨#[]⟩, .int .i64 0, .int .i64 0, .int .i64 0, .slice none 0 0, .int .i64 0, .int .i64 0, .slice none 0 0, .slice none 0 0, .slice (some ⟨b, 0, none⟩) 2 2] := rfl
end Go.Proofs.YtmmhpibkjdlkgaaGreat
namespace Go.Proofs.YtmmhpibkjdlkgaaGreat
open Go Go.RowKit Go.Shelf
open Ex (E)

set_option maxRecDepth 100000 in
set_option maxHeartbeats 4000000 in
theorem wakes_any (w : World) : Calls Tryz.prog 30 #[] w fun e w' => e = .returned (.bool true) ∧ Below w.heap.size w w' := by
  have HNAME := Lib.hid (show ∀ (s : List UInt8) (w : World), Calls Tryz.prog 73 #[.string ⟨s.toArray⟩] w fun e w' => e = .returned (.agg #[.int .i64 1, .int .i64 0, .int .i64 0, .string ⟨s.toArray⟩, .string ⟨#[]⟩, .int .i64 0, .string ⟨#[]⟩, .int .i64 0, .int .i64 0, .int .i64 0, .slice none 0 0, .int .i64 0, .int .i64 0, .slice none 0 0, .slice none 0 0, .slice none 0 0]) ∧ Below w.heap.size w w' from sname_any)
  go_enter Tryz.func30, Tryz.ntmps30
  go_wp2_with fail
  refine (HNAME.out [120] _).mono ?_
  rintro e w1 ⟨rfl, hb1⟩
  have HB1 := Lib.hid hb1
  clear hb1
  go_wp2_with fail
  refine (HNAME.out [121] _).mono ?_
  rintro e w2 ⟨rfl, hb2⟩
  have HB2 := Lib.hid hb2
  clear hb2
  go_upto_region 2 with fail
  as_aux_lemma =>
    go_wp2_with fail
    obtain ⟨W4, hW4⟩ : ∃ W4, (((w2.alloc (.cells #[.int .i64 1, .int .i64 0, .int .i64 0, .string ⟨#[120]⟩, .string ⟨#[]⟩, .int .i64 0, .string ⟨#[]⟩, .int .i64 0, .int .i64 0, .int .i64 0, .slice none 0 0, .int .i64 0, .int .i64 0, .slice none 0 0, .slice none 0 0, .slice none 0 0, .int .i64 1, .int .i64 0, .int .i64 0, .string ⟨#[121]⟩, .string ⟨#[]⟩, .int .i64 0, .string ⟨#[]⟩, .int .i64 0, .int .i64 0, .int .i64 0, .slice none 0 0, .int .i64 0, .int .i64 0, .slice none 0 0, .slice none 0 0, .slice none 0 0] 30)).alloc (.cells #[.int .i64 6, .int .i64 0, .int .i64 0, .string ⟨#[]⟩, .string ⟨#[]⟩, .int .i64 0, .string ⟨#[]⟩, .int .i64 0, .int .i64 0, .int .i64 0, .slice none 0 0, .int .i64 0, .int .i64 0, .slice none 0 0, .slice none 0 0, .slice (some ⟨w2.heap.size, 0, none⟩) 2 2] 30)).alloc (.cells #[.int .i64 9, .int .i64 0, .int .i64 0, .string ⟨#[120]⟩, .string ⟨#[]⟩, .int .i64 0, .string ⟨#[]⟩, .int .i64 0, .int .i64 5, .int .i64 0, .slice none 0 0, .int .i64 0, .int .i64 0, .slice none 0 0, .slice none 0 0, .slice (some ⟨w2.heap.size + 1, 0, none⟩) 1 1] 30)).alloc (.cells #[.int .i64 1, .int .i64 0, .slice none 0 0] 26) = W4 := ⟨_, rfl⟩
    rw [hW4]
    have hW4' : [Obj.cells #[.int .i64 1, .int .i64 0, .int .i64 0, .string ⟨#[120]⟩, .string ⟨#[]⟩, .int .i64 0, .string ⟨#[]⟩, .int .i64 0, .int .i64 0, .int .i64 0, .slice none 0 0, .int .i64 0, .int .i64 0, .slice none 0 0, .slice none 0 0, .slice none 0 0, .int .i64 1, .int .i64 0, .int .i64 0, .string ⟨#[121]⟩, .string ⟨#[]⟩, .int .i64 0, .string ⟨#[]⟩, .int .i64 0, .int .i64 0, .int .i64 0, .slice none 0 0, .int .i64 0, .int .i64 0, .slice none 0 0, .slice none 0 0, .slice none 0 0] 30, .cells #[.int .i64 6, .int .i64 0, .int .i64 0, .string ⟨#[]⟩, .string ⟨#[]⟩, .int .i64 0, .string ⟨#[]⟩, .int .i64 0, .int .i64 0, .int .i64 0, .slice none 0 0, .int .i64 0, .int .i64 0, .slice none 0 0, .slice none 0 0, .slice (some ⟨w2.heap.size, 0, none⟩) 2 2] 30, .cells #[.int .i64 9, .int .i64 0, .int .i64 0, .string ⟨#[120]⟩, .string ⟨#[]⟩, .int .i64 0, .string ⟨#[]⟩, .int .i64 0, .int .i64 5, .int .i64 0, .slice none 0 0, .int .i64 0, .int .i64 0, .slice none 0 0, .slice none 0 0, .slice (some ⟨w2.heap.size + 1, 0, none⟩) 1 1] 30, .cells #[.int .i64 1, .int .i64 0, .slice none 0 0] 26].foldl World.alloc w2 = W4 := by rw [← hW4]; simp only [List.foldl]
    clear hW4
    replace hW4 := hW4'
    clear hW4'
    have hs4 : W4.heap.size = w2.heap.size + 4 := by rw [← hW4]; exact allocs_size _ _
    have hb4 : Below w2.heap.size w2 W4 := by rw [← hW4]; exact allocs_below _ _ (Nat.le_refl _)
    have g0 : W4.heap[w2.heap.size]? = some (.cells #[.int .i64 1, .int .i64 0, .int .i64 0, .string ⟨#[120]⟩, .string ⟨#[]⟩, .int .i64 0, .string ⟨#[]⟩, .int .i64 0, .int .i64 0, .int .i64 0, .slice none 0 0, .int .i64 0, .int .i64 0, .slice none 0 0, .slice none 0 0, .slice none 0 0, .int .i64 1, .int .i64 0, .int .i64 0, .string ⟨#[121]⟩, .string ⟨#[]⟩, .int .i64 0, .string ⟨#[]⟩, .int .i64 0, .int .i64 0, .int .i64 0, .slice none 0 0, .int .i64 0, .int .i64 0, .slice none 0 0, .slice none 0 0, .slice none 0 0] 30) := by rw [← hW4]; exact allocs_get _ w2 0 _ rfl
    have g1 : W4.heap[w2.heap.size + 1]? = some (.cells #[.int .i64 6, .int .i64 0, .int .i64 0, .string ⟨#[]⟩, .string ⟨#[]⟩, .int .i64 0, .string ⟨#[]⟩, .int .i64 0, .int .i64 0, .int .i64 0, .slice none 0 0, .int .i64 0, .int .i64 0, .slice none 0 0, .slice none 0 0, .slice (some ⟨w2.heap.size, 0, none⟩) 2 2] 30) := by rw [← hW4]; exact allocs_get _ w2 1 _ rfl
    have g2 : W4.heap[w2.heap.size + 1 + 1]? = some (.cells #[.int .i64 9, .int .i64 0, .int .i64 0, .string ⟨#[120]⟩, .string ⟨#[]⟩, .int .i64 0, .string ⟨#[]⟩, .int .i64 0, .int .i64 5, .int .i64 0, .slice none 0 0, .int .i64 0, .int .i64 0, .slice none 0 0, .slice none 0 0, .slice (some ⟨w2.heap.size + 1, 0, none⟩) 1 1] 30) := by rw [← hW4]; exact allocs_get _ w2 2 _ rfl
    have g3 : W4.heap[w2.heap.size + 1 + 1 + 1]? = some (.cells #[.int .i64 1, .int .i64 0, .slice none 0 0] 26) := by rw [← hW4]; exact allocs_get _ w2 3 _ rfl
    clear hW4
    have hwe : ExAt (LT (w2.heap.size + 2)) W4 WE (weL (w2.heap.size + 1)) := we_at (g0.trans (by rw [we_row1])) (g1.trans (by rw [we_row2])) (by show _ < _; omega) (by show _ < _; omega)
    have hsl : SlAt (LT W4.heap.size) W4 [.mk 1 0 []] (some ⟨w2.heap.size + 1 + 1 + 1, 0, none⟩) 1 :=
      ⟨Nat.le_refl _, by unfold maxLen; show 1 ≤ _; omega, KidsAt.of_nodes (G := LT W4.heap.size) (b := w2.heap.size + 1 + 1 + 1) (by show _ < _; omega) [.mk 1 0 []] 0 (fun i hi => by
        obtain rfl : i = 0 := by simpa using hi
        exact NodeAt.mk' (ty_leaf _ _ (i64_small (by omega)) (i64_small (by omega))) (cell_box g3 rfl rfl) (cell_box g3 rfl rfl) (cell_box g3 rfl rfl))⟩
    have hwe4 : ExAt (LT W4.heap.size) W4 WE (weL (w2.heap.size + 1)) := hwe.mono (fun _ _ _ => rfl) (fun b h => (Nat.lt_of_lt_of_le h (by omega) : b < W4.heap.size))
    have hcall := with_any WE (weL (w2.heap.size + 1)) [.mk 1 0 []] (some ⟨w2.heap.size + 1 + 1 + 1, 0, none⟩) 1 W4 we_fine ⟨by decide, fun t ht => by obtain rfl := List.mem_singleton.1 ht; decide⟩ hwe4 hsl
    have hwev := we_ev (w2.heap.size + 1)
    rw [we_with, hwev] at hcall
    have HB4 := Lib.hid hb4; have HS4 := Lib.hid hs4; have HG2 := Lib.hid g2; have HWE := Lib.hid hwe
    clear hb4 hs4 g0 g1 g2 g3 hwe hwe4 hsl
    refine hcall.mono ?_
    rintro e w5 ⟨⟨s', he, _⟩, hb5⟩
    rw [show ev ((WF, (0 : Int)) : E × Int).1 s' = _ from we_evF s'] at he
    replace he : e = .returned (.tuple #[.agg #[.int .i64 9, .int .i64 0, .int .i64 0, .string ⟨#[120]⟩, .string ⟨#[]⟩, .int .i64 0, .string ⟨#[]⟩, .int .i64 0, .int .i64 1, .int .i64 0, .slice s'.aa 0 s'.ac, .int .i64 0, .int .i64 0, .slice s'.ba 0 s'.bc, .slice s'.pa 0 s'.pc, .slice s'.ka 1 s'.kc], .int .i64 0]) := he
    subst he
    have h25 := (hb5.block (w2.heap.size + 1 + 1) (by have := HS4.out; omega)).trans HG2.out
    have hlt : w2.heap.size + 1 + 1 < w5.heap.size := by have := hb5.size; have := HS4.out; omega
    have HB5 := Lib.hid hb5; have H25 := Lib.hid h25
    have c0 : w5.cell? ⟨w2.heap.size + 1 + 1, 0, none⟩ = some (.int .i64 9) := cell_box (i := 0) h25 rfl rfl
    have c1 : w5.cell? ⟨w2.heap.size + 1 + 1, 1, none⟩ = some (.int .i64 0) := cell_box (i := 1) h25 rfl rfl
    have c2 : w5.cell? ⟨w2.heap.size + 1 + 1, 2, none⟩ = some (.int .i64 0) := cell_box (i := 2) h25 rfl rfl
    have c3 : w5.cell? ⟨w2.heap.size + 1 + 1, 3, none⟩ = some (.string ⟨#[120]⟩) := cell_box (i := 3) h25 rfl rfl
    have c4 : w5.cell? ⟨w2.heap.size + 1 + 1, 4, none⟩ = some (.string ⟨#[]⟩) := cell_box (i := 4) h25 rfl rfl
    have c5 : w5.cell? ⟨w2.heap.size + 1 + 1, 5, none⟩ = some (.int .i64 0) := cell_box (i := 5) h25 rfl rfl
    have c6 : w5.cell? ⟨w2.heap.size + 1 + 1, 6, none⟩ = some (.string ⟨#[]⟩) := cell_box (i := 6) h25 rfl rfl
    have c7 : w5.cell? ⟨w2.heap.size + 1 + 1, 7, none⟩ = some (.int .i64 0) := cell_box (i := 7) h25 rfl rfl
    have c8 : w5.cell? ⟨w2.heap.size + 1 + 1, 8, none⟩ = some (.int .i64 5) := cell_box (i := 8) h25 rfl rfl
    have c9 : w5.cell? ⟨w2.heap.size + 1 + 1, 9, none⟩ = some (.int .i64 0) := cell_box (i := 9) h25 rfl rfl
    have c10 : w5.cell? ⟨w2.heap.size + 1 + 1, 10, none⟩ = some (.slice none 0 0) := cell_box (i := 10) h25 rfl rfl
    have c11 : w5.cell? ⟨w2.heap.size + 1 + 1, 11, none⟩ = some (.int .i64 0) := cell_box (i := 11) h25 rfl rfl
    have c12 : w5.cell? ⟨w2.heap.size + 1 + 1, 12, none⟩ = some (.int .i64 0) := cell_box (i := 12) h25 rfl rfl
    have c13 : w5.cell? ⟨w2.heap.size + 1 + 1, 13, none⟩ = some (.slice none 0 0) := cell_box (i := 13) h25 rfl rfl
    have c14 : w5.cell? ⟨w2.heap.size + 1 + 1, 14, none⟩ = some (.slice none 0 0) := cell_box (i := 14) h25 rfl rfl
    have c15 : w5.cell? ⟨w2.heap.size + 1 + 1, 15, none⟩ = some (.slice (some ⟨w2.heap.size + 1, 0, none⟩) 1 1) := cell_box (i := 15) h25 rfl rfl
    clear hb5 h25 hcall
    as_aux_lemma =>
      go_wp2_with fail
      clear c0 c1 c2 c3 c4 c5 c6 c7 c8 c9 c10 c11 c12 c13 c14 c15
      obtain ⟨W6, hW6⟩ : ∃ W6, w5.alloc (.cells #[.int .i64 9, .int .i64 0, .int .i64 0, .string ⟨#[120]⟩, .string ⟨#[]⟩, .int .i64 0, .string ⟨#[]⟩, .int .i64 0, .int .i64 1, .int .i64 0, .slice s'.aa 0 s'.ac, .int .i64 0, .int .i64 0, .slice s'.ba 0 s'.bc, .slice s'.pa 0 s'.pc, .slice s'.ka 1 s'.kc] 30) = W6 := ⟨_, rfl⟩
      rw [hW6]
      have hs6 : W6.heap.size = w5.heap.size + 1 := by rw [← hW6]; exact World.size_alloc _ _
      have hb6 : Below w5.heap.size w5 W6 := by rw [← hW6]; exact (Below.refl _ _).alloc (Nat.le_refl _) _
      have hg6 : W6.heap[w5.heap.size]? = some (.cells #[.int .i64 9, .int .i64 0, .int .i64 0, .string ⟨#[120]⟩, .string ⟨#[]⟩, .int .i64 0, .string ⟨#[]⟩, .int .i64 0, .int .i64 1, .int .i64 0, .slice s'.aa 0 s'.ac, .int .i64 0, .int .i64 0, .slice s'.ba 0 s'.bc, .slice s'.pa 0 s'.pc, .slice s'.ka 1 s'.kc] 30) := by rw [← hW6]; exact World.alloc_heap_new w5 _
      have hg2 : W6.heap[w2.heap.size + 1 + 1]? = some (.cells #[.int .i64 9, .int .i64 0, .int .i64 0, .string ⟨#[120]⟩, .string ⟨#[]⟩, .int .i64 0, .string ⟨#[]⟩, .int .i64 0, .int .i64 5, .int .i64 0, .slice none 0 0, .int .i64 0, .int .i64 0, .slice none 0 0, .slice none 0 0, .slice (some ⟨w2.heap.size + 1, 0, none⟩) 1 1] 30) := (hb6.block _ hlt).trans H25.out
      have hwe6 : ExAt (LT (w2.heap.size + 2)) W6 WE (weL (w2.heap.size + 1)) := HWE.out.mono (fun b o h => (hb6.cell (p := ⟨b, o, none⟩) (by have : b < w2.heap.size + 2 := h; show b < _; omega)).trans (HB5.out.cell (p := ⟨b, o, none⟩) (by have : b < w2.heap.size + 2 := h; have := HS4.out; show b < _; omega))) (fun _ h => h)
      have hbw : Below w.heap.size w W6 := HB1.out.trans ((HB2.out.mono HB1.out.size).trans ((HB4.out.mono (Nat.le_trans HB1.out.size HB2.out.size)).trans ((HB5.out.mono (by have := HB1.out.size; have := HB2.out.size; have := HS4.out; omega)).trans (hb6.mono (by have := HB1.out.size; have := HB2.out.size; omega)))))
      have hcell : ∀ W', Below (w5.heap.size + 1) W6 W' → (W'.cell? ⟨w2.heap.size + 1 + 1, 0, none⟩ = some (.int .i64 9) ∧ W'.cell? ⟨w2.heap.size + 1 + 1, 1, none⟩ = some (.int .i64 0) ∧ W'.cell? ⟨w2.heap.size + 1 + 1, 2, none⟩ = some (.int .i64 0) ∧ W'.cell? ⟨w2.heap.size + 1 + 1, 3, none⟩ = some (.string ⟨#[120]⟩) ∧ W'.cell? ⟨w2.heap.size + 1 + 1, 4, none⟩ = some (.string ⟨#[]⟩) ∧ W'.cell? ⟨w2.heap.size + 1 + 1, 5, none⟩ = some (.int .i64 0) ∧ W'.cell? ⟨w2.heap.size + 1 + 1, 6, none⟩ = some (.string ⟨#[]⟩) ∧ W'.cell? ⟨w2.heap.size + 1 + 1, 7, none⟩ = some (.int .i64 0) ∧ W'.cell? ⟨w2.heap.size + 1 + 1, 8, none⟩ = some (.int .i64 5) ∧ W'.cell? ⟨w2.heap.size + 1 + 1, 9, none⟩ = some (.int .i64 0) ∧ W'.cell? ⟨w2.heap.size + 1 + 1, 10, none⟩ = some (.slice none 0 0) ∧ W'.cell? ⟨w2.heap.size + 1 + 1, 11, none⟩ = some (.int .i64 0) ∧ W'.cell? ⟨w2.heap.size + 1 + 1, 12, none⟩ = some (.int .i64 0) ∧ W'.cell? ⟨w2.heap.size + 1 + 1, 13, none⟩ = some (.slice none 0 0) ∧ W'.cell? ⟨w2.heap.size + 1 + 1, 14, none⟩ = some (.slice none 0 0) ∧ W'.cell? ⟨w2.heap.size + 1 + 1, 15, none⟩ = some (.slice (some ⟨w2.heap.size + 1, 0, none⟩) 1 1)) ∧ W'.cell? ⟨w5.heap.size, 8, none⟩ = some (.int .i64 1) := fun W' hb => by
        have h2 := (hb.block (w2.heap.size + 1 + 1) (by omega)).trans hg2
        have h6 := (hb.block w5.heap.size (by omega)).trans hg6
        exact ⟨⟨cell_box (i := 0) h2 rfl rfl, cell_box (i := 1) h2 rfl rfl, cell_box (i := 2) h2 rfl rfl, cell_box (i := 3) h2 rfl rfl, cell_box (i := 4) h2 rfl rfl, cell_box (i := 5) h2 rfl rfl, cell_box (i := 6) h2 rfl rfl, cell_box (i := 7) h2 rfl rfl, cell_box (i := 8) h2 rfl rfl, cell_box (i := 9) h2 rfl rfl, cell_box (i := 10) h2 rfl rfl, cell_box (i := 11) h2 rfl rfl, cell_box (i := 12) h2 rfl rfl, cell_box (i := 13) h2 rfl rfl, cell_box (i := 14) h2 rfl rfl, cell_box (i := 15) h2 rfl rfl⟩, cell_box (i := 8) h6 rfl rfl⟩
      have htw : ∀ W', Below (w5.heap.size + 1) W6 W' → ExAt (LT W'.heap.size) W' WE (weL (w2.heap.size + 1)) := fun W' hb => hwe6.mono (fun b o h => hb.cell (p := ⟨b, o, none⟩) (by have : b < w2.heap.size + 2 := h; show b < _; omega)) (fun b h => (Nat.lt_of_lt_of_le h (by have := hb.size; omega) : b < W'.heap.size))
      have hle : ∀ W', Below (w5.heap.size + 1) W6 W' → w5.heap.size + 1 ≤ W'.heap.size := fun W' hb => by have := hb.size; omega
      have hb0 : Below (w5.heap.size + 1) W6 W6 := Below.refl _ _
      have hck := fun W' hb => check_anyE WE (weL (w2.heap.size + 1)) W' we_fine (htw W' hb)
      have hcz := fun W' => check_anyE Ex.zero noLeads W' zero_fine (zero_at _ W')
      have hsz := fun W' hb => esize_any WE (weL (w2.heap.size + 1)) W' we_fine.1 (htw W' hb)
      have hdp := fun W' hb => edepth_any WE (weL (w2.heap.size + 1)) W' we_fine (htw W' hb)
      have hfr := fun W' hb => free_any WE (weL (w2.heap.size + 1)) W' we_fine (htw W' hb)
      have han := fun W' hb => anns_any WE (weL (w2.heap.size + 1)) W' we_fine (htw W' hb)
      have hva := fun W' hb => value_any WE (weL (w2.heap.size + 1)) W' we_fine (htw W' hb)
      have hsm := fun W' hb => sameX_any WE WE (weL (w2.heap.size + 1)) (weL (w2.heap.size + 1)) W' we_fine (htw W' hb) (htw W' hb)
      have hcp := fun W' => checkPat_any (.mk 1 0 0 0 [] [] []) none 0 W' (by decide) (by decide) ⟨⟨(show I64 (1 : Int) from i64_small (by omega)), (show I64 (0 : Int) from i64_small (by omega))⟩, Nat.le_refl _, Nat.zero_le _, by show PKids _ _ [] none; simp [PKids]⟩
      rw [hwev] at hck hsz hdp hfr han hva hsm; rw [we_evZ] at hcz; unfold pv at hcp
      simp only [Tr.P.kind, Tr.P.frm, Tr.P.til, Tr.P.num, Tr.P.nm, Tr.P.s, Tr.P.kids, List.length_nil] at hcp
      rw [we_right] at hck hfr han; rw [we_zero] at hcz; rw [we_size] at hsz; rw [we_depth] at hdp; rw [we_free] at hfr; rw [we_value] at hva; rw [we_same] at hsm; rw [we_any] at hcp
      have HCELL := Lib.hid hcell; have HLE := Lib.hid hle; have HB0 := Lib.hid hb0; have HBW := Lib.hid hbw
      have HCK := Lib.hid hck; have HCZ := Lib.hid hcz; have HSZ := Lib.hid hsz; have HDP := Lib.hid hdp; have HFR := Lib.hid hfr; have HAN := Lib.hid han; have HVA := Lib.hid hva; have HSM := Lib.hid hsm; have HCP := Lib.hid hcp
      clear hcell hle hb0 hbw hck hcz hsz hdp hfr han hva hsm hcp htw hwe6 hg2 hg6 hb6 hs6 hW6 hlt
      as_aux_lemma =>
        refine (HCK.out _ HB0.out).mono ?_
        rintro e x1 ⟨rfl, hb1⟩
        have b1 := HB0.out.trans (hb1.mono (HLE.out _ HB0.out))
        have K1 := Lib.hid b1
        clear b1 hb1
        go_wp2_with fail
        refine (HCZ.out _).mono ?_
        rintro e x2 ⟨rfl, hb2⟩
        have b2 := K1.out.trans (hb2.mono (HLE.out _ K1.out))
        have K2 := Lib.hid b2
        obtain ⟨⟨c0, c1, c2, c3, c4, c5, c6, c7, c8, c9, c10, c11, c12, c13, c14, c15⟩, d8⟩ := HCELL.out x2 b2
        clear b2 hb2
        as_aux_lemma =>
          go_wp2_with fail
          clear c0 c1 c2 c3 c4 c5 c6 c7 c8 c9 c10 c11 c12 c13 c14 c15 d8
          refine (HSZ.out _ K2.out).mono ?_
          rintro e x3 ⟨rfl, hb3⟩
          have b3 := K2.out.trans (hb3.mono (HLE.out _ K2.out))
          have K3 := Lib.hid b3
          obtain ⟨⟨c0, c1, c2, c3, c4, c5, c6, c7, c8, c9, c10, c11, c12, c13, c14, c15⟩, d8⟩ := HCELL.out x3 b3
          clear b3 hb3
          as_aux_lemma =>
            go_wp2_with fail
            clear c0 c1 c2 c3 c4 c5 c6 c7 c8 c9 c10 c11 c12 c13 c14 c15 d8
            refine (HDP.out _ K3.out).mono ?_
            rintro e x4 ⟨rfl, hb4⟩
            have b4 := K3.out.trans (hb4.mono (HLE.out _ K3.out))
            have K4 := Lib.hid b4
            obtain ⟨⟨c0, c1, c2, c3, c4, c5, c6, c7, c8, c9, c10, c11, c12, c13, c14, c15⟩, d8⟩ := HCELL.out x4 b4
            clear b4 hb4
            as_aux_lemma =>
              go_wp2_with fail
              clear c0 c1 c2 c3 c4 c5 c6 c7 c8 c9 c10 c11 c12 c13 c14 c15 d8
              refine (HFR.out _ K4.out).mono ?_
              rintro e x5 ⟨v5, rfl, own5, hb5'⟩
              have b5 := K4.out.trans (hb5'.mono (HLE.out _ K4.out))
              rw [if_pos trivial] at own5
              unfold TxRow at own5
              obtain ⟨a5, k5, rfl⟩ := own_shapeT own5
              have HR5 := Lib.hid (SRow.of_own own5).2
              have K5 := Lib.hid b5
              clear b5 hb5' own5
              as_aux_lemma =>
                go_wp2_with fail
                refine (texts_any [[121]] [[121]] a5 k5 (some ⟨x5.heap.size, 0, none⟩) 1 _ (by decide) (by decide) (HR5.out.below ((Below.refl x5.heap.size x5).alloc (Nat.le_refl _) _) (Nat.le_refl _)) ?_).mono ?_
                · refine Or.inr ⟨x5.heap.size, 0, rfl, by simp, fun i hi => ?_⟩
                  obtain rfl : i = 0 := by simpa using hi
                  exact cell_box (World.alloc_heap_new x5 _) rfl rfl
                rintro e x6 ⟨rfl, hb6'⟩
                have b6 := (K5.out.alloc (HLE.out _ K5.out) _).trans (hb6'.mono (by rw [World.size_alloc]; have := HLE.out _ K5.out; omega))
                have K6 := Lib.hid b6
                obtain ⟨⟨c0, c1, c2, c3, c4, c5, c6, c7, c8, c9, c10, c11, c12, c13, c14, c15⟩, d8⟩ := HCELL.out x6 b6
                clear b6 hb6'
                as_aux_lemma =>
                  go_wp2_with fail
                  clear c0 c1 c2 c3 c4 c5 c6 c7 c8 c9 c10 c11 c12 c13 c14 c15 d8
                  refine (HAN.out _ K6.out).mono ?_
                  rintro e x7 ⟨v7, rfl, ⟨ls7, hl7, _, own7⟩, hb7'⟩
                  have b7 := K6.out.trans (hb7'.mono (HLE.out _ K6.out))
                  obtain ⟨a7, k7, rfl⟩ := own_shapeT own7
                  have hn7 : (if True then Ex.anns WE else []).length = 1 := by rw [if_pos trivial]; exact we_anns
                  rw [hn7]
                  obtain ⟨⟨c0, c1, c2, c3, c4, c5, c6, c7, c8, c9, c10, c11, c12, c13, c14, c15⟩, d8⟩ := HCELL.out x7 b7
                  have K7 := Lib.hid b7
                  clear b7 hb7' own7 hl7 hn7
                  as_aux_lemma =>
                    go_wp2_with fail
                    clear c0 c1 c2 c3 c4 c5 c6 c7 c8 c9 c10 c11 c12 c13 c14 c15 d8
                    refine (HVA.out _ K7.out).mono ?_
                    rintro e x8 ⟨rfl, hb8⟩
                    have b8 := K7.out.trans (hb8.mono (HLE.out _ K7.out))
                    obtain ⟨⟨c0, c1, c2, c3, c4, c5, c6, c7, c8, c9, c10, c11, c12, c13, c14, c15⟩, d8⟩ := HCELL.out x8 b8
                    have K8 := Lib.hid b8
                    clear b8 hb8
                    as_aux_lemma =>
                      go_wp2_with fail
                      clear c0 c1 c2 c3 c4 c5 c6 c7 c8 c9 c10 c11 c12 c13 c14 c15 d8
                      refine (HSM.out _ K8.out).mono ?_
                      rintro e x9 ⟨rfl, hb9⟩
                      have b9 := K8.out.trans (hb9.mono (HLE.out _ K8.out))
                      have K9 := Lib.hid b9
                      clear b9 hb9
                      as_aux_lemma =>
                        go_wp2_with fail
                        refine (HCP.out _).mono ?_
                        rintro e x10 ⟨rfl, hb10⟩
                        have K10 := Lib.hid (K9.out.trans (hb10.mono (HLE.out _ K9.out)))
                        clear hb10
                        go_wp2_with fail
                        go_ret
                        exact ⟨rfl, HBW.out.trans (K10.out.mono (by have := HB1.out.size; have := HB2.out.size; have := HB4.out.size; have := HB5.out.size; omega))⟩
end Go.Proofs.YtmmhpibkjdlkgaaGreat

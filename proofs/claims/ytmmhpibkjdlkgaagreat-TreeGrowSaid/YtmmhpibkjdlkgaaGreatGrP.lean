/- A pair of two expressions, and an ascription of one, plainly. -/
import Derived.Test.YtmmhpibkjdlkgaaGreatCnP
import Derived.Test.YtmmhpibkjdlkgaaGreatTwP
namespace Go.Proofs.YtmmhpibkjdlkgaaGreat
open Go Go.RowKit
open Ex (E)

def pair6 (e f : E) : E := .mk 6 0 0 [] [] 0 [] 0 noT noT [] [e, f]
def asc15 (e : E) : E := .mk 15 0 0 [] [] 0 [] 0 (.mk 1 0 []) noT [] [e]
theorem pair6_right (e f : E) : Ex.right (pair6 e f) = (Ex.right e && Ex.right f) := by
  have h : Ex.nodeRight (pair6 e f) = true := by kernel_rfl
  have e1 : Ex.right (pair6 e f) = (Ex.nodeRight (pair6 e f) && Ex.rights [e, f]) := rfl
  rw [e1, h]; simp [Ex.rights]
theorem asc15_right (e : E) : Ex.right (asc15 e) = Ex.right e := by
  have h : Ex.nodeRight (asc15 e) = true := by kernel_rfl
  have e1 : Ex.right (asc15 e) = (Ex.nodeRight (asc15 e) && Ex.rights [e]) := rfl
  rw [e1, h]; simp [Ex.rights]
theorem pair6_size (e f : E) : Ex.size (pair6 e f) = Ex.size e + Ex.size f + 1 := by simp [pair6, Ex.size, Ex.sizes]
theorem asc15_size (e : E) : Ex.size (asc15 e) = Ex.size e + 1 := by simp [asc15, Ex.size, Ex.sizes]
theorem pair6_depth (e f : E) : Ex.depth (pair6 e f) = max (Ex.depth e) (Ex.depth f) + 1 := by
  have h : Ex.fdep (pair6 e f) = 0 := by kernel_rfl
  have e1 : Ex.depth (pair6 e f) = max (Ex.depths [e, f]) (Ex.fdep (pair6 e f)) + 1 := rfl
  rw [e1, h]; simp [Ex.depths]
theorem pair6_value (e f : E) : Ex.value (pair6 e f) = (Ex.value e && Ex.value f) := by
  have e1 : Ex.value (pair6 e f) = (Ex.formOk 6 && Ex.values [e, f]) := rfl
  have h : Ex.formOk 6 = true := by decide
  rw [e1, h]; simp [Ex.values]
theorem asc15_value (e : E) : Ex.value (asc15 e) = false := by
  have e1 : Ex.value (asc15 e) = (Ex.formOk 15 && true) := rfl
  have h : Ex.formOk 15 = false := by decide
  rw [e1, h]; rfl
theorem pair6_anns (e f : E) : Ex.anns (pair6 e f) = Ex.anns e ++ Ex.anns f := by
  have e1 : Ex.anns (pair6 e f) = annT noT noT ++ Ex.annss [e, f] := rfl
  have h : annT noT noT = [] := by kernel_rfl
  rw [e1, h]; simp [Ex.annss]
theorem asc15_anns (e : E) : (Ex.anns (asc15 e)).length = (Ex.anns e).length + 1 := by
  have e1 : Ex.anns (asc15 e) = annT (.mk 1 0 []) noT ++ Ex.annss [e] := rfl
  have h : annT (.mk 1 0 []) noT = [.mk 1 0 []] := by kernel_rfl
  rw [e1, h]; simp [Ex.annss]
/-- What lies under a node that asks nothing is fine where its kids are. -/
theorem fine_over {e : E} (h : Ex.Fine e) (hs : Ex.size e ≤ 10000) (hk : ∀ x ∈ e.kids, ∀ d, ∀ k ∈ Ex.pre x d, Ex.Fine k.1) : Ex.FineAll e := by
  refine ⟨hs, fun k hk' => ?_⟩
  cases e with
  | mk kd f t nm ar n s op A B ps l =>
    rw [Ex.pre] at hk'
    rcases List.mem_cons.1 hk' with rfl | hk'
    · exact h
    · have : ∀ (l : List E) (d : Nat), (∀ x ∈ l, ∀ d, ∀ k ∈ Ex.pre x d, Ex.Fine k.1) → ∀ k ∈ Ex.pres l d, Ex.Fine k.1 := by
        intro l
        induction l with
        | nil => intro d _ k hk; simp [Ex.pres] at hk
        | cons x r ih =>
          intro d hx k hk
          rw [Ex.pres] at hk
          rcases List.mem_append.1 hk with hk | hk
          · exact hx x (by simp) d k hk
          · exact ih d (fun y hy => hx y (List.mem_cons_of_mem _ hy)) k hk
      exact this l _ hk k hk'
theorem Ex.hv_two {e f : E} (h : ¬ 400 < Ex.hv [e, f] 0) : (Ex.FineAll e ∧ Ex.size e ≤ 401) ∧ (Ex.FineAll f ∧ Ex.size f ≤ 401) ∧ Ex.FineAll (pair6 e f) ∧ Ex.FineAll (asc15 e) := by
  have h9 : Ex.ec f (Ex.ec e 0) ≤ 400 := by
    have e1 : Ex.hv [e, f] 0 = Ex.ec f (Ex.ec e 0) := rfl
    omega
  have he : ∀ d, Ex.size e + 0 ≤ Ex.ec e 0 ∧ ∀ k ∈ Ex.pre e d, Ex.Fine k.1 := fun d => Ex.ec_small e 0 d (by have := (Ex.ec_small f (Ex.ec e 0) 1 h9).1; omega)
  have hf : ∀ d, Ex.size f + Ex.ec e 0 ≤ Ex.ec f (Ex.ec e 0) ∧ ∀ k ∈ Ex.pre f d, Ex.Fine k.1 := fun d => Ex.ec_small f _ d h9
  have s1 := (he 1).1
  have s2 := (hf 1).1
  have hn : ∀ k : Int, ∀ A : Tp.T, Tp.size A ≤ 10000 → ∀ l, Ex.Fine (.mk k 0 0 [] [] 0 [] 0 A noT [] l) := fun k A hA l => ⟨by show ([] : List UInt8).length ≤ 300; simp, by show ([] : List UInt8).length ≤ 300; simp, hA, by show Tp.size noT ≤ 10000; decide, fun _ h => by cases h⟩
  refine ⟨⟨⟨by omega, (he 1).2⟩, by omega⟩, ⟨⟨by omega, (hf 1).2⟩, by omega⟩, fine_over (hn 6 noT (by decide) _) (by rw [pair6_size]; omega) (fun x hx d => ?_), fine_over (hn 15 _ (by decide) _) (by rw [asc15_size]; omega) (fun x hx d => ?_)⟩
  · have hx' : x = e ∨ x = f := by simpa [pair6, Ex.E.kids] using hx
    rcases hx' with rfl | rfl
    · exact (he d).2
    · exact (hf d).2
  · have hx' : x = e := by simpa [asc15, Ex.E.kids] using hx
    rw [hx']
    exact (he d).2
namespace Ex
mutual
theorem depth_bd : ∀ (e : E) (d : Nat), (∀ k ∈ pre e d, Fine k.1) → depth e ≤ size e + 10000
  | .mk k f t nm ar n s op A B ps l, d, h => by
    have h1 : fdep (.mk k f t nm ar n s op A B ps l) ≤ 10000 := fdep_le (h (.mk k f t nm ar n s op A B ps l, 0, d) (by rw [pre]; exact List.mem_cons_self))
    have h2 := depths_bd l (d + 1) (fun k hk => h k (by rw [pre]; exact List.mem_cons_of_mem _ hk))
    rw [depth, size]; omega
theorem depths_bd : ∀ (l : List E) (d : Nat), (∀ k ∈ pres l d, Fine k.1) → depths l ≤ sizes l + 10000
  | [], _, _ => by simp [depths]
  | x :: r, d, h => by
    have h1 := depth_bd x d (fun k hk => h k (by rw [pres]; exact List.mem_append_left _ hk))
    have h2 := depths_bd r d (fun k hk => h k (by rw [pres]; exact List.mem_append_right _ hk))
    rw [depths, sizes]; omega
end
end Ex
end Go.Proofs.YtmmhpibkjdlkgaaGreat

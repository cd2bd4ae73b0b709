import Derived.Test.YtbjidpooociamaaDoorOpen
import Derived.Test.YtbjidpooociamaaDoorBulk
import Derived.Deep.Strs
set_option linter.unusedVariables false
set_option linter.unusedSimpArgs false
namespace Go.Proofs.YtbjidpooociamaaDoor
open Go.ChangeShapes Go.WideShapes Go.ChangeAt Go.RowKit Lb
set_option maxRecDepth 100000 in
/-- A cell of limbs, opened. -/
theorem open_cell {H : Type} {enc : TypeId × Value → H} {W : World} {fuel : Nat} {v : Value} {y : DataW H × List MemPlace} (hf : DataW.trod enc Tryd.prog W 0 (fun _ => true) true fuel 22 [v] = some y) :
    ∃ a c l, v = .slice a l.length c ∧ l.length ≤ c ∧ Rd W a l ∧ Lim l ∧ (c = 0 ∨ ∃ elems spare, y.1 = .slice elems spare ∧ elems.length + spare.length = c) := by
  rcases open_ints Tryd.underlying22 Tryd.underlying62 cells62 hf with ⟨hcs, _⟩ | ⟨x, len, cap, zs, hcs, _, hl, hm, hz, hx, hcell, hwz⟩
  · simp at hcs
    subst hcs
    exact ⟨none, 0, [], rfl, Nat.le_refl _, Rd.nil _ _, by intro x hx; simp at hx, .inl rfl⟩
  · simp at hcs
    subst hcs
    subst hx
    simp only [if_true] at hz
    have hlen : ((zs.take len).map Int.toNat).length = len := by simp; omega
    refine ⟨some x, cap, (zs.take len).map Int.toNat, by rw [hlen], by omega, ?_, ?_, .inr ⟨_, _, rfl, by simp [lits]; omega⟩⟩
    · intro j hj
      rw [hlen] at hj
      obtain ⟨b, off, rfl, hc⟩ := ints_at hcell (by omega)
      refine ⟨b, off, rfl, ?_⟩
      rw [hc j (by omega)]
      have hb := range_u32 hwz j
      have e : ((zs.take len).map Int.toNat).getD j 0 = (zs[j]?.getD 0).toNat := by
        have hjl : j < zs.length := by omega
        simp [List.getD, hj, hjl]
      rw [e]
      simp only [List.getD]
      congr 2
      omega
    · intro y hy
      obtain ⟨z, hz1, rfl⟩ := List.mem_map.1 hy
      have := bounds_u32 (hwz z (List.mem_of_mem_take hz1))
      omega
theorem cells4 : Tryd.prog.cellsOf 4 = 1 := by kernel_rfl
theorem cells22 : Tryd.prog.cellsOf 22 = 1 := by kernel_rfl
theorem cells47 : Tryd.prog.cellsOf 47 = 3 := by kernel_rfl
set_option maxRecDepth 100000 in
/-- An argument that is a quotient, opened. -/
theorem open_ratio {H : Type} {enc : TypeId × Value → H} {W : World} {base : Nat} {v : Value} {d : DataW H} {p : List MemPlace} (hv : Value.okWide Tryd.prog W .any base 47 v) (h : DataW.Trod enc Tryd.prog W 0 (fun _ => true) true 47 v d p) :
    ∃ (ng : Bool) (a : Option Addr) (ca : Nat) (la : List Nat) (b : Option Addr) (cb : Nat) (lb : List Nat), v = .agg #[.bool ng, .slice a la.length ca, .slice b lb.length cb] ∧ la.length ≤ ca ∧ lb.length ≤ cb ∧ Rd W a la ∧ Rd W b lb ∧ Lim la ∧ Lim lb ∧ ca + cb ≤ Rows.uptoBulk d := by
  obtain ⟨cs, rfl, hcs⟩ := okWide_struct Tryd.underlying47 hv
  rw [cells47] at hcs
  obtain ⟨fuel, hf⟩ := h
  obtain ⟨y0, y1, y2, n, hx, -, t0, t1, t2⟩ := Go.Deep.trod_struct3 Tryd.underlying47 hf
  obtain ⟨l⟩ := cs
  simp only [List.size_toArray] at hcs
  match l, hcs with
  | [c0, c1, c2], _ =>
    simp only [cells4, cells22, Value.cells] at t0 t1 t2
    obtain ⟨ng, e0, -⟩ := DataW.trod_bool Tryd.underlying4 t0
    obtain ⟨a, ca, la, e1, h1, r1, m1, z1⟩ := open_cell t1
    obtain ⟨b, cb, lb, e2, h2, r2, m2, z2⟩ := open_cell t2
    simp only [Prod.mk.injEq] at hx
    have k1 := bulk_limbs z1
    have k2 := bulk_limbs z2
    refine ⟨ng, a, ca, la, b, cb, lb, ?_, h1, h2, r1, r2, m1, m2, ?_⟩
    · simp at e0
      rw [e0, e1, e2]
    · rw [hx.1]
      simp only [Rows.uptoBulk, Rows.uptoBulkAll]
      omega
end Go.Proofs.YtbjidpooociamaaDoor

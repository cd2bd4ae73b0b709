import Derived.Test.YtmkippkbodejkaaRows
import Derived.Test.YtmkippkbodejkaaChecked
import Derived.Test.YtmkippkbodejkaaA6
import Derived.ProofKit
import Derived.OpenShut
import Derived.SizedLaws
import Derived.Deep.DeepHandedRow
import Derived.Lib.LaidTab
namespace Go.Proofs.Ytmkippkbodejkaa
open Go.ChangeShapes Go.WideShapes Go.ChangeAt Go.RowKit
theorem own : ownKnob Try.prog.godebug = none := by kernel_rfl
theorem laidOut : laidOutB Try.prog = true := by kernel_rfl
theorem cells2 : Try.prog.cellsOf 2 = 1 := by kernel_rfl
theorem bytes2 : Try.prog.bytesOf 2 = 8 := by kernel_rfl
set_option maxRecDepth 100000 in
/-- An argument of numbers, opened: its shape, what it reads as, and its datum's size. -/
theorem open_nums {H : Type} {enc : TypeId × Value → H} {W : World} {base : Nat} {v : Value} {d : DataW H} {p : List MemPlace} (hv : Value.okWide Try.prog W .any base 22 v) (h : DataW.Trod enc Try.prog W 0 (fun _ => true) true 22 v d p) :
    ∃ a c l, v = .slice a l.length c ∧ l.length ≤ c ∧ Rd W a l ∧ I64 l ∧ (c = 0 ∨ ∃ elems spare, d = .slice elems spare ∧ elems.length + spare.length = c) := by
  obtain ⟨a, len, cap, rfl⟩ := okWide_slice Try.underlying22 hv
  obtain ⟨fuel, hf⟩ := h
  rcases open_ints Try.underlying22 Try.underlying2 cells2 hf with ⟨hcs, _⟩ | ⟨x, l, c, zs, hcs, _, hl, hm, hz, hx, hcell, hwz⟩
  · simp [Value.cells] at hcs
    obtain ⟨rfl, rfl, rfl⟩ := hcs
    exact ⟨none, 0, [], rfl, Nat.le_refl _, Rd.nil _ _, by intro x hx; simp at hx, .inl rfl⟩
  · simp [Value.cells] at hcs
    obtain ⟨rfl, rfl, rfl⟩ := hcs
    simp only [Prod.mk.injEq] at hx
    simp only [if_true] at hz
    have hlen : (zs.take len).length = len := by simp; omega
    refine ⟨some x, cap, zs.take len, by rw [hlen], by omega, ?_, ?_, .inr ⟨_, _, hx.1, by simp [lits]; omega⟩⟩
    · intro j hj
      rw [hlen] at hj
      obtain ⟨b, off, rfl, hc⟩ := ints_at hcell (by omega)
      refine ⟨b, off, rfl, ?_⟩
      rw [hc j (by omega)]
      have e : (zs.take len).getD j 0 = zs.getD j 0 := by
        simp [List.getD, hj]
      rw [e]
    · intro y hy
      exact bounds_i64 (hwz y (List.mem_of_mem_take hy))
/-- What the form's reach says of it. -/
theorem reach_nums {H : Type} {ts : List TypeId} {ds : List (DataW H)} (hsz : (DataW.weightsEach Try.prog ts ds).all (· ≤ reachBytes) = true) {j : Nat} {d : DataW H} {c : Nat} (ht : ts[j]? = some 22) (hd : ds[j]? = some d)
    (h : c = 0 ∨ ∃ elems spare, d = .slice elems spare ∧ elems.length + spare.length = c) : c ≤ 17592186044416 := by
  rcases h with rfl | ⟨elems, spare, rfl, hc⟩
  · omega
  · have := sized_slice hsz ht hd Try.underlying22
    rw [bytes2, hc] at this
    simp only [reachBytes] at this
    omega
end Go.Proofs.Ytmkippkbodejkaa

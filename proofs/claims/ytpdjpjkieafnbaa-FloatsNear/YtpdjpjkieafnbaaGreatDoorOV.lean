import Derived.Test.YtpdjpjkieafnbaaGreatDoorV4
import Derived.Test.YtpdjpjkieafnbaaGreatDoorOO
set_option linter.unusedVariables false
set_option linter.unusedSimpArgs false
namespace Go.Proofs.YtpdjpjkieafnbaaGreatDoor.Li
open Go.RowKit Lb Nr
/-- No neighbour of the nearest number is nearer. -/
theorem law_fnear (neg : Bool) (a b : Option Addr) (ca cb : Nat) (la lb : List Nat) (w : World) (hca : la.length ≤ ca) (hcb : lb.length ≤ cb) (hla : la.length ≤ 35184372087808) (hlb : lb.length ≤ 35184372087808) (hra : Rd w a la) (hrb : Rd w b lb) (hma : Lim la) (hmb : Lim lb) :
    Calls Tryz.prog 10 #[.bool neg, .slice a la.length ca, .slice b lb.length cb] w fun e w' => e = .returned (.bool true) ∧ Keep w w' := by
  by_cases h0 : val lb = 0
  · exact near_none neg a b ca cb la lb w hca hcb hla hlb hra hrb hma hmb h0
  · exact near_some neg a b ca cb la lb w hca hcb hla hlb hra hrb hma hmb h0
end Go.Proofs.YtpdjpjkieafnbaaGreatDoor.Li
set_option linter.unusedVariables false
set_option linter.unusedSimpArgs false
namespace Go.Proofs.YtpdjpjkieafnbaaGreatDoor
open Go.ChangeShapes Go.WideShapes Go.ChangeAt Go.RowKit Lb
theorem cells40 : Tryz.prog.cellsOf 40 = 1 := by kernel_rfl
theorem bytes40 : Tryz.prog.bytesOf 40 = 4 := by kernel_rfl

set_option maxRecDepth 100000 in
/-- An argument of limbs, opened: its shape, what it reads as, and its datum's size. -/
theorem open_limbs {H : Type} {enc : TypeId × Value → H} {W : World} {base : Nat} {v : Value} {d : DataW H} {p : List MemPlace} (hv : Value.okWide Tryz.prog W .any base 52 v) (h : DataW.Trod enc Tryz.prog W 0 (fun _ => true) true 52 v d p) :
    ∃ a c l, v = .slice a l.length c ∧ l.length ≤ c ∧ Li.Rd W a l ∧ Lim l ∧ (c = 0 ∨ ∃ elems spare, d = .slice elems spare ∧ elems.length + spare.length = c) := by
  obtain ⟨a, len, cap, rfl⟩ := okWide_slice Tryz.underlying52 hv
  obtain ⟨fuel, hf⟩ := h
  rcases open_ints Tryz.underlying52 Tryz.underlying40 cells40 hf with ⟨hcs, _⟩ | ⟨x, l, c, zs, hcs, _, hl, hm, hz, hx, hcell, hwz⟩
  · simp [Value.cells] at hcs
    obtain ⟨rfl, rfl, rfl⟩ := hcs
    exact ⟨none, 0, [], rfl, Nat.le_refl _, Li.Rd.nil _ _, by intro x hx; simp at hx, .inl rfl⟩
  · simp [Value.cells] at hcs
    obtain ⟨rfl, rfl, rfl⟩ := hcs
    simp only [Prod.mk.injEq] at hx
    simp only [if_true] at hz
    have hlen : ((zs.take len).map Int.toNat).length = len := by simp; omega
    refine ⟨some x, cap, (zs.take len).map Int.toNat, by rw [hlen], by omega, ?_, ?_, .inr ⟨_, _, hx.1, by simp [lits]; omega⟩⟩
    · intro j hj
      rw [hlen] at hj
      obtain ⟨b, off, rfl, hc⟩ := ints_at hcell (by omega)
      refine ⟨b, off, rfl, ?_⟩
      rw [hc j (by omega)]
      have hb := range_u32 hwz j
      have e : ((zs.take len).map Int.toNat).getD j 0 = (zs[j]?.getD 0).toNat := by
        have hjl : j < zs.length := by omega
        simp [List.getD, hj, hjl]
      rw [e]
      simp only [List.getD]
      congr 2
      omega
    · intro y hy
      obtain ⟨z, hz1, rfl⟩ := List.mem_map.1 hy
      have := bounds_u32 (hwz z (List.mem_of_mem_take hz1))
      omega
/-- What the form's reach says of it. -/
theorem reach_limbs {H : Type} {ts : List TypeId} {ds : List (DataW H)} (hsz : (DataW.weightsEach Tryz.prog ts ds).all (· ≤ reachBytes) = true) {j : Nat} {d : DataW H} {c : Nat} (ht : ts[j]? = some 52) (hd : ds[j]? = some d)
    (h : c = 0 ∨ ∃ elems spare, d = .slice elems spare ∧ elems.length + spare.length = c) : c ≤ 35184372087808 := by
  rcases h with rfl | ⟨elems, spare, rfl, hc⟩
  · omega
  · have := sized_slice hsz ht hd Tryz.underlying52
    rw [bytes40, hc] at this
    simp only [reachBytes] at this
    omega
end Go.Proofs.YtpdjpjkieafnbaaGreatDoor

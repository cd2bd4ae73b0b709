import Derived.Test.YtcdcheecaphmgaaDoorMO3
set_option linter.unusedVariables false
set_option linter.unusedSimpArgs false
namespace Go.Proofs.YtcdcheecaphmgaaDoor
open Go.ChangeShapes Go.WideShapes Go.ChangeAt Go.RowKit
section
variable {H : Type} {enc : TypeId × Value → H} {W : World}
/-- How many nodes a row may have: 80 bytes each. -/
theorem nodes_len {fuel : Nat} {v : Value} {y : DataW H × List MemPlace} {a : Option Addr} {n cap : Nat} (hf : DataW.trod enc Tryd.prog W 0 (fun _ => true) true fuel 22 [v] = some y) (hz : Sz 22 y.1) (hv : v = .slice a n cap) : n ≤ 1759218604441 := by
  rcases Go.Deep.open_slice Tryd.underlying22 hf with ⟨hcs, _⟩ | ⟨a, len, cap, m, k, D, Pl, hcs, hb, hl, hm, hmm, rfl, hx⟩
  · simp at hcs
    subst hcs
    simp only [Value.slice.injEq] at hv
    omega
  · simp at hcs
    subst hcs
    simp only [if_true] at hmm
    subst hmm
    obtain ⟨hs, hd⟩ := hz.slice Tryd.underlying22
    rw [bytes63] at hs
    simp only [reachBytes, List.length_map, List.length_range] at hs
    simp only [Value.slice.injEq] at hv
    omega
set_option maxRecDepth 100000 in
/-- A tree's cells, opened. -/
theorem open_tree2 {fuel : Nat} {cs : List Value} {y : DataW H × List MemPlace} (hf : DataW.trod enc Tryd.prog W 0 (fun _ => true) true fuel 24 cs = some y) (hz : Sz 24 y.1) :
    ∃ (o : Int) (a : Option Addr) (cap : Nat) (L : List Nd), cs = [.int .i64 o, .slice a L.length cap] ∧ L.length ≤ cap ∧ RdN W a L ∧ L.length ≤ 1759218604441 ∧ (-9223372036854775808 ≤ o ∧ o ≤ 9223372036854775807) := by
  obtain ⟨xs, m, -, rfl, hcs, hxs, hfld⟩ := DataW.trod_struct Tryd.underlying24 hf
  rw [cells24] at hcs
  match cs, hcs with
  | [c0, c1], _ =>
    match xs, hxs with
    | [y0, y1], _ =>
      have t0 : DataW.trod enc Tryd.prog W 0 (fun _ => true) true m 3 [c0] = some y0 := by have h := hfld 0 _ rfl; simpa [cells3] using h
      have t1 : DataW.trod enc Tryd.prog W 0 (fun _ => true) true m 22 [c1] = some y1 := by have h := hfld 1 _ rfl; simpa [cells22] using h
      have z1 : Sz 22 y1.1 := hz.agg Tryd.underlying24 (i := 1) rfl rfl
      obtain ⟨n0, e0, -, w0⟩ := DataW.trod_int Tryd.underlying3 t0
      obtain ⟨a, cap, L, e1, h1, r1, l1, -⟩ := open_nodes t1 z1
      have l2 := nodes_len t1 z1 e1
      have e0 : c0 = .int .i64 n0 := by simpa using e0
      subst e0 e1
      exact ⟨n0, a, cap, L, rfl, h1, r1, l2, bounds_i64 w0⟩
set_option maxRecDepth 100000 in
theorem arg_tree2 {base : Nat} {v : Value} {d : DataW H} {p : List MemPlace} (hv : Value.okWide Tryd.prog W .any base 24 v) (h : DataW.Trod enc Tryd.prog W 0 (fun _ => true) true 24 v d p) (hz : Sz 24 d) :
    ∃ (o : Int) (a : Option Addr) (cap : Nat) (L : List Nd), v = .agg #[.int .i64 o, .slice a L.length cap] ∧ L.length ≤ cap ∧ RdN W a L ∧ L.length ≤ 1759218604441 ∧ (-9223372036854775808 ≤ o ∧ o ≤ 9223372036854775807) := by
  obtain ⟨cs, rfl, -⟩ := okWide_struct Tryd.underlying24 hv
  obtain ⟨fuel, hf⟩ := h
  obtain ⟨o, a, cap, L, e, r⟩ := open_tree2 hf hz
  refine ⟨o, a, cap, L, ?_, r⟩
  simp only [Value.cells] at e
  rw [← e]
end
theorem gtab : Tryd.prog.globalNamed "math/bits.deBruijn64tab" = some 1 := by kernel_rfl
theorem ltab : (Rows.laid_math_bits_deBruijn64tab : DataW Unit) = Lib.tabData .u8 (Lib.deBruijn64tab.map fun n : Nat => (n : Int)) := by kernel_rfl
/-- The library's table, from what the row says of it. -/
theorem tab_of {W : World} (h : laidMet Tryd.prog [("math/bits.deBruijn64tab", Rows.laid_math_bits_deBruijn64tab)] W) : Bi.Tab W := by
  rw [ltab] at h
  have h1 := Lib.tabIs_of_head (P := Tryd.prog) (t := 121) (e := 5) (n := 64) gtab (by kernel_rfl) Tryd.underlying121 Tryd.underlying5 (by kernel_rfl) (by kernel_rfl) h
  intro j hj
  have := h1.cell gtab j (by simpa using hj)
  rw [this]
  simp [List.getD, hj]
/-- A world in which the library's table holds what the library's text lays. -/
def lay0 (W : World) : World :=
  { W with heap := W.heap.modify 1 fun o => match o with
      | .cells _ t frozen => .cells (Lib.deBruijn64tab.map (fun n : Nat => Value.int .u8 (n : Int))).toArray t frozen
      | o => o }
end Go.Proofs.YtcdcheecaphmgaaDoor

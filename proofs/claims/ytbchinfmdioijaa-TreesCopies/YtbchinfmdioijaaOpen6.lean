import Derived.Test.YtbchinfmdioijaaOpen3
import Derived.Test.YtbchinfmdioijaaS5
set_option linter.unusedVariables false
set_option linter.unusedSimpArgs false
namespace Go.Proofs.Ytbchinfmdioijaa
open Go.ChangeShapes Go.WideShapes Go.ChangeAt Go.RowKit
theorem bytes24' : Try.prog.bytesOf 24 = 32 := by kernel_rfl
section
variable {H : Type} {enc : TypeId × Value → H} {W : World}
/-- How many nodes a row may have: 80 bytes each. -/
theorem nodes_len {fuel : Nat} {v : Value} {y : DataW H × List MemPlace} {a : Option Addr} {n cap : Nat} (hf : DataW.trod enc Try.prog W 0 (fun _ => true) true fuel 22 [v] = some y) (hz : Sz 22 y.1) (hv : v = .slice a n cap) : n ≤ 1759218604441 := by
  rcases Go.Deep.open_slice Try.underlying22 hf with ⟨hcs, _⟩ | ⟨a, len, cap, m, k, D, Pl, hcs, hb, hl, hm, hmm, rfl, hx⟩
  · simp at hcs
    subst hcs
    simp only [Value.slice.injEq] at hv
    omega
  · simp at hcs
    subst hcs
    simp only [if_true] at hmm
    subst hmm
    obtain ⟨hs, hd⟩ := hz.slice Try.underlying22
    rw [bytes40] at hs
    simp only [reachBytes, List.length_map, List.length_range] at hs
    simp only [Value.slice.injEq] at hv
    omega
set_option maxRecDepth 100000 in
/-- A tree's cells, opened. -/
theorem open_tree2 {fuel : Nat} {cs : List Value} {y : DataW H × List MemPlace} (hf : DataW.trod enc Try.prog W 0 (fun _ => true) true fuel 24 cs = some y) (hz : Sz 24 y.1) :
    ∃ (o : Int) (a : Option Addr) (cap : Nat) (L : List Nd), cs = [.int .i64 o, .slice a L.length cap] ∧ L.length ≤ cap ∧ RdN W a L ∧ L.length ≤ 1759218604441 ∧ (-9223372036854775808 ≤ o ∧ o ≤ 9223372036854775807) := by
  obtain ⟨xs, m, -, rfl, hcs, hxs, hfld⟩ := DataW.trod_struct Try.underlying24 hf
  rw [cells24] at hcs
  match cs, hcs with
  | [c0, c1], _ =>
    match xs, hxs with
    | [y0, y1], _ =>
      have t0 : DataW.trod enc Try.prog W 0 (fun _ => true) true m 3 [c0] = some y0 := by have h := hfld 0 _ rfl; simpa [cells3] using h
      have t1 : DataW.trod enc Try.prog W 0 (fun _ => true) true m 22 [c1] = some y1 := by have h := hfld 1 _ rfl; simpa [cells22] using h
      have z1 : Sz 22 y1.1 := hz.agg Try.underlying24 (i := 1) rfl rfl
      obtain ⟨n0, e0, -, w0⟩ := DataW.trod_int Try.underlying3 t0
      obtain ⟨a, cap, L, e1, h1, r1, l1, -⟩ := open_nodes t1 z1
      have l2 := nodes_len t1 z1 e1
      have e0 : c0 = .int .i64 n0 := by simpa using e0
      subst e0 e1
      exact ⟨n0, a, cap, L, rfl, h1, r1, l2, bounds_i64 w0⟩
/-- Trees in a cell, opened. -/
theorem open_trees {fuel : Nat} {v : Value} {y : DataW H × List MemPlace} (hf : DataW.trod enc Try.prog W 0 (fun _ => true) true fuel 50 [v] = some y) (hz : Sz 50 y.1) :
    ∃ a cap ts, v = .slice a (ts : List (Int × List Nd)).length cap ∧ ts.length ≤ cap ∧ RdT W a ts ∧ ts.length ≤ 4398046511104 ∧ (∀ j, j < ts.length → (ts.getD j (0, [])).2.length ≤ 1759218604441) := by
  rcases Go.Deep.open_slice Try.underlying50 hf with ⟨hcs, _⟩ | ⟨a, len, cap, m, n, D, Pl, hcs, hb, hl, hm, hmm, rfl, hx⟩
  · simp at hcs
    subst hcs
    exact ⟨none, 0, [], rfl, Nat.le_refl _, by intro j hj; simp at hj, by simp, by intro j hj; simp at hj⟩
  · simp at hcs
    subst hcs
    simp only [if_true] at hmm
    subst hmm
    obtain ⟨hs, hd⟩ := hz.slice Try.underlying50
    rw [bytes24'] at hs
    simp only [reachBytes, List.length_map, List.length_range] at hs
    rw [cells24] at hx
    have each : ∀ i, i < len → ∃ q : (Int × List Nd) × Option Addr × Nat, a.spot = none ∧ W.cell? ⟨a.block, a.off + i * 2, none⟩ = some (.int .i64 q.1.1) ∧ W.cell? ⟨a.block, a.off + i * 2 + 1, none⟩ = some (.slice q.2.1 q.1.2.length q.2.2) ∧ RdN W q.2.1 q.1.2 ∧ q.1.2.length ≤ q.2.2 ∧ q.1.2.length ≤ 1759218604441 ∧ (-9223372036854775808 ≤ q.1.1 ∧ q.1.1 ≤ 9223372036854775807) := by
      intro i hi
      obtain ⟨cs', h1, h2⟩ := hx i (by omega)
      obtain ⟨cs0, h10, h20⟩ := hx 0 (by omega)
      obtain ⟨-, -, hcell0⟩ := World.cells?_some h10
      obtain ⟨o0', a0', cp0', L0', rfl, -⟩ := open_tree2 h20 (hd _ (List.mem_map.2 ⟨0, List.mem_range.2 (by omega), rfl⟩))
      have hsp : a.spot = none := by
        have := hcell0 0 (by omega)
        simpa [Addr.add] using World.cell?_spot this
      obtain ⟨-, hlen, hcell⟩ := World.cells?_some h1
      obtain ⟨ot, na, cp, L, rfl, r1, r2, r3, r4⟩ := open_tree2 h2 (hd _ (List.mem_map.2 ⟨i, List.mem_range.2 hi, rfl⟩))
      obtain ⟨b, off, sp⟩ := a
      simp only at hsp
      subst hsp
      have cell : ∀ k, k < 2 → W.cell? ⟨b, off + i * 2 + k, none⟩ = ([.int .i64 ot, .slice na L.length cp] : List Value)[k]? := by
        intro k hk
        rw [← hcell k hk, Go.WideShapes.add_plain, Go.WideShapes.add_plain]
      exact ⟨⟨(ot, L), na, cp⟩, rfl, cell 0 (by omega), cell 1 (by omega), r2, r1, r3, r4⟩
    haveI : Inhabited ((Int × List Nd) × Option Addr × Nat) := ⟨((0, []), none, 0)⟩
    obtain ⟨q, hq⟩ := Go.Deep.choose_lt each
    have hg : ∀ j, j < len → ((List.range len).map (fun i => (q i).1)).getD j (0, []) = (q j).1 := by intro j hj; simp [List.getD, hj]
    refine ⟨some a, m, (List.range len).map (fun i => (q i).1), by simp, by simpa using hl, ?_, by simp; omega, ?_⟩
    · intro j hj
      simp only [List.length_map, List.length_range] at hj
      obtain ⟨h1, h2, h3, h4, h5, h6, h7⟩ := hq j hj
      obtain ⟨b, off, sp⟩ := a
      simp only at h1
      subst h1
      rw [hg j hj]
      exact ⟨b, off, (q j).2.1, (q j).2.2, rfl, h2, h3, h4, h5, by omega, h7⟩
    · intro j hj
      simp only [List.length_map, List.length_range] at hj
      rw [hg j hj]
      exact (hq j hj).2.2.2.2.2.1
end
end Go.Proofs.Ytbchinfmdioijaa
set_option linter.unusedVariables false
set_option linter.unusedSimpArgs false
namespace Go.Proofs.Ytbchinfmdioijaa
open Go.ChangeShapes Go.WideShapes Go.ChangeAt Go.RowKit
section
variable {H : Type} {enc : TypeId × Value → H} {W : World}
set_option maxRecDepth 100000 in
theorem arg_tree2 {base : Nat} {v : Value} {d : DataW H} {p : List MemPlace} (hv : Value.okWide Try.prog W .any base 24 v) (h : DataW.Trod enc Try.prog W 0 (fun _ => true) true 24 v d p) (hz : Sz 24 d) :
    ∃ (o : Int) (a : Option Addr) (cap : Nat) (L : List Nd), v = .agg #[.int .i64 o, .slice a L.length cap] ∧ L.length ≤ cap ∧ RdN W a L ∧ L.length ≤ 1759218604441 ∧ (-9223372036854775808 ≤ o ∧ o ≤ 9223372036854775807) := by
  obtain ⟨cs, rfl, -⟩ := okWide_struct Try.underlying24 hv
  obtain ⟨fuel, hf⟩ := h
  obtain ⟨o, a, cap, L, e, r⟩ := open_tree2 hf hz
  refine ⟨o, a, cap, L, ?_, r⟩
  simp only [Value.cells] at e
  rw [← e]
end
end Go.Proofs.Ytbchinfmdioijaa

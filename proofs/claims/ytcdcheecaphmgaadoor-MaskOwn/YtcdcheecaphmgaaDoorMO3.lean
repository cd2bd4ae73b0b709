import Derived.Test.YtcdcheecaphmgaaDoorMO2
set_option linter.unusedVariables false
set_option linter.unusedSimpArgs false
namespace Go.Proofs.YtcdcheecaphmgaaDoor
open Go.ChangeShapes Go.WideShapes Go.ChangeAt Go.RowKit
section
variable {H : Type} {enc : TypeId × Value → H} {W : World}
/-- Numbers in a cell, opened. -/
theorem open_floats {fuel : Nat} {v : Value} {y : DataW H × List MemPlace} (hf : DataW.trod enc Tryd.prog W 0 (fun _ => true) true fuel 38 [v] = some y) (hz : Sz 38 y.1) :
    ∃ a cap l, v = .slice a (l : List Nat).length cap ∧ l.length ≤ cap ∧ RdF W a l ∧ l.length ≤ 17592186044416 := by
  rcases Go.Deep.open_slice Tryd.underlying38 hf with ⟨hcs, _⟩ | ⟨a, len, cap, m, n, D, Pl, hcs, hb, hl, hm, hmm, rfl, hx⟩
  · simp at hcs
    subst hcs
    exact ⟨none, 0, [], rfl, Nat.le_refl _, by intro j hj; simp at hj, by simp⟩
  · simp at hcs
    subst hcs
    simp only [if_true] at hmm
    subst hmm
    obtain ⟨hs, hd⟩ := hz.slice Tryd.underlying38
    rw [bytes60] at hs
    simp only [reachBytes, List.length_map, List.length_range] at hs
    rw [cells60] at hx
    have each : ∀ i, i < len → ∃ q : Nat, W.cell? ⟨a.block, a.off + i, none⟩ = some (.float .f64 q) ∧ a.spot = none := by
      intro i hi
      obtain ⟨cs', h1, h2⟩ := hx i (by omega)
      obtain ⟨cs0, h10, h20⟩ := hx 0 (by omega)
      obtain ⟨-, -, hcell0⟩ := World.cells?_some h10
      obtain ⟨b0, rfl, -⟩ := trod_float Tryd.underlying60 h20
      have hsp : a.spot = none := by
        have := hcell0 0 (by omega)
        simpa [Addr.add] using World.cell?_spot this
      obtain ⟨-, hlen, hcell⟩ := World.cells?_some h1
      obtain ⟨b1, rfl, -⟩ := trod_float Tryd.underlying60 h2
      obtain ⟨b, off, sp⟩ := a
      simp only at hsp
      subst hsp
      have := hcell 0 (by omega)
      rw [Go.WideShapes.add_plain, Go.WideShapes.add_plain] at this
      exact ⟨b1, by simpa using this, rfl⟩
    obtain ⟨q, hq⟩ := Go.Deep.choose_lt each
    refine ⟨some a, m, (List.range len).map q, by simp, by simpa using hl, ?_, by simp; omega⟩
    intro j hj
    simp only [List.length_map, List.length_range] at hj
    obtain ⟨h1, h2⟩ := hq j hj
    obtain ⟨b, off, sp⟩ := a
    simp only at h2
    subst h2
    refine ⟨b, off, rfl, ?_⟩
    have : ((List.range len).map q).getD j 0 = q j := by simp [List.getD, hj]
    rw [this]
    exact h1
set_option maxRecDepth 100000 in
theorem arg_floats {base : Nat} {v : Value} {d : DataW H} {p : List MemPlace} (hv : Value.okWide Tryd.prog W .any base 38 v) (h : DataW.Trod enc Tryd.prog W 0 (fun _ => true) true 38 v d p) (hz : Sz 38 d) :
    ∃ a c l, v = .slice a (l : List Nat).length c ∧ l.length ≤ c ∧ RdF W a l ∧ l.length ≤ 17592186044416 := by
  obtain ⟨a, len, cap, rfl⟩ := okWide_slice Tryd.underlying38 hv
  obtain ⟨fuel, hf⟩ := h
  exact open_floats hf hz
set_option maxRecDepth 100000 in
theorem arg_ints {base : Nat} {v : Value} {d : DataW H} {p : List MemPlace} (hv : Value.okWide Tryd.prog W .any base 47 v) (h : DataW.Trod enc Tryd.prog W 0 (fun _ => true) true 47 v d p) (hz : Sz 47 d) :
    ∃ a c l, v = .slice a (l : List Int).length c ∧ l.length ≤ c ∧ RdI W a l ∧ (∀ x ∈ l, -9223372036854775808 ≤ x ∧ x ≤ 9223372036854775807) ∧ c ≤ 17592186044416 := by
  obtain ⟨a, len, cap, rfl⟩ := okWide_slice Tryd.underlying47 hv
  obtain ⟨fuel, hf⟩ := h
  exact open_ints_c Tryd.underlying47 Tryd.underlying3 cells3 bytes3 hf hz
set_option maxRecDepth 100000 in
/-- A tree's cells, opened. -/
theorem open_tree {fuel : Nat} {cs : List Value} {y : DataW H × List MemPlace} (hf : DataW.trod enc Tryd.prog W 0 (fun _ => true) true fuel 24 cs = some y) (hz : Sz 24 y.1) :
    ∃ (o : Int) (a : Option Addr) (cap : Nat) (L : List Nd), cs = [.int .i64 o, .slice a L.length cap] ∧ L.length ≤ cap ∧ RdN W a L ∧ L.length ≤ 2199023255552 ∧ (-9223372036854775808 ≤ o ∧ o ≤ 9223372036854775807) := by
  obtain ⟨xs, m, -, rfl, hcs, hxs, hfld⟩ := DataW.trod_struct Tryd.underlying24 hf
  rw [cells24] at hcs
  match cs, hcs with
  | [c0, c1], _ =>
    match xs, hxs with
    | [y0, y1], _ =>
      have t0 : DataW.trod enc Tryd.prog W 0 (fun _ => true) true m 3 [c0] = some y0 := by have h := hfld 0 _ rfl; simpa [cells3] using h
      have t1 : DataW.trod enc Tryd.prog W 0 (fun _ => true) true m 22 [c1] = some y1 := by have h := hfld 1 _ rfl; simpa [cells22] using h
      have z1 : Sz 22 y1.1 := hz.agg Tryd.underlying24 (i := 1) rfl rfl
      obtain ⟨n0, e0, -, w0⟩ := DataW.trod_int Tryd.underlying3 t0
      obtain ⟨a, cap, L, e1, h1, r1, l1, -⟩ := open_nodes t1 z1
      have e0 : c0 = .int .i64 n0 := by simpa using e0
      subst e0 e1
      exact ⟨n0, a, cap, L, rfl, h1, r1, l1, bounds_i64 w0⟩
set_option maxRecDepth 100000 in
/-- An argument that is a tree. -/
theorem arg_tree {base : Nat} {v : Value} {d : DataW H} {p : List MemPlace} (hv : Value.okWide Tryd.prog W .any base 24 v) (h : DataW.Trod enc Tryd.prog W 0 (fun _ => true) true 24 v d p) (hz : Sz 24 d) :
    ∃ (o : Int) (a : Option Addr) (cap : Nat) (L : List Nd), v = .agg #[.int .i64 o, .slice a L.length cap] ∧ L.length ≤ cap ∧ RdN W a L ∧ L.length ≤ 2199023255552 ∧ (-9223372036854775808 ≤ o ∧ o ≤ 9223372036854775807) := by
  obtain ⟨cs, rfl, -⟩ := okWide_struct Tryd.underlying24 hv
  obtain ⟨fuel, hf⟩ := h
  obtain ⟨o, a, cap, L, e, r⟩ := open_tree hf hz
  refine ⟨o, a, cap, L, ?_, r⟩
  simp only [Value.cells] at e
  rw [← e]
end
end Go.Proofs.YtcdcheecaphmgaaDoor

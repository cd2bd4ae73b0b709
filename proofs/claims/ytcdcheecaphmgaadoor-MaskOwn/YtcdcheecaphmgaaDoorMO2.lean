import Derived.Test.YtcdcheecaphmgaaDoorMO1
set_option linter.unusedVariables false
set_option linter.unusedSimpArgs false
namespace Go.Proofs.YtcdcheecaphmgaaDoor
open Go.ChangeShapes Go.WideShapes Go.ChangeAt Go.RowKit
section
variable {H : Type} {enc : TypeId × Value → H} {W : World}
theorem bounds_u8 {n : Int} (h : (Lit.int .u8 n).wf = true) : 0 ≤ n ∧ n < 256 := by
  simp only [Lit.wf, IntKind.min, IntKind.max, IntKind.signed, IntKind.bits, Bool.and_eq_true, decide_eq_true_eq] at h
  simp at h
  omega
theorem bounds_f64 {b : Nat} (h : (Lit.float .f64 b).wf = true) : b < 18446744073709551616 := by
  simp only [Lit.wf, decide_eq_true_eq] at h
  have : (2 : Nat) ^ 64 = 18446744073709551616 := by decide
  omega
set_option maxRecDepth 100000 in
/-- A node's cells, opened. -/
theorem open_node {fuel : Nat} {cs : List Value} {y : DataW H × List MemPlace} (hf : DataW.trod enc Tryd.prog W 0 (fun _ => true) true fuel 63 cs = some y) (hz : Sz 63 y.1) :
    ∃ (n : Nd) (ca : Option Addr) (cap : Nat), cs = [.int .u8 n.kd, .int .i64 n.vl, .int .i64 n.ft, .float .f64 n.th, .slice ca n.cs.length cap, .int .u8 n.ms, .int .i64 n.lf, .int .i64 n.rt] ∧ RdI W ca n.cs ∧ n.cs.length ≤ cap ∧ n.cs.length ≤ 17592186044416 ∧ n.Fit := by
  obtain ⟨xs, m, -, rfl, hcs, hxs, hfld⟩ := DataW.trod_struct Tryd.underlying63 hf
  rw [cells63] at hcs
  match cs, hcs with
  | [c0, c1, c2, c3, c4, c5, c6, c7], _ =>
    match xs, hxs with
    | [y0, y1, y2, y3, y4, y5, y6, y7], _ =>
      have t0 : DataW.trod enc Tryd.prog W 0 (fun _ => true) true m 59 [c0] = some y0 := by have h := hfld 0 _ rfl; simpa [cells59] using h
      have t1 : DataW.trod enc Tryd.prog W 0 (fun _ => true) true m 2 [c1] = some y1 := by have h := hfld 1 _ rfl; simpa [cells2] using h
      have t2 : DataW.trod enc Tryd.prog W 0 (fun _ => true) true m 3 [c2] = some y2 := by have h := hfld 2 _ rfl; simpa [cells3] using h
      have t3 : DataW.trod enc Tryd.prog W 0 (fun _ => true) true m 60 [c3] = some y3 := by have h := hfld 3 _ rfl; simpa [cells60] using h
      have t4 : DataW.trod enc Tryd.prog W 0 (fun _ => true) true m 47 [c4] = some y4 := by have h := hfld 4 _ rfl; simpa [cells47] using h
      have t5 : DataW.trod enc Tryd.prog W 0 (fun _ => true) true m 61 [c5] = some y5 := by have h := hfld 5 _ rfl; simpa [cells61] using h
      have t6 : DataW.trod enc Tryd.prog W 0 (fun _ => true) true m 3 [c6] = some y6 := by have h := hfld 6 _ rfl; simpa [cells3] using h
      have t7 : DataW.trod enc Tryd.prog W 0 (fun _ => true) true m 3 [c7] = some y7 := by have h := hfld 7 _ rfl; simpa [cells3] using h
      have z4 : Sz 47 y4.1 := hz.agg Tryd.underlying63 (i := 4) rfl rfl
      obtain ⟨n0, e0, -, w0⟩ := DataW.trod_int Tryd.underlying59 t0
      obtain ⟨n1, e1, -, w1⟩ := DataW.trod_int Tryd.underlying2 t1
      obtain ⟨n2, e2, -, w2⟩ := DataW.trod_int Tryd.underlying3 t2
      obtain ⟨n3, e3, w3⟩ := trod_float Tryd.underlying60 t3
      obtain ⟨a4, k4, l4, e4, h4, r4, m4, b4⟩ := open_ints_c Tryd.underlying47 Tryd.underlying3 cells3 bytes3 t4 z4
      obtain ⟨n5, e5, -, w5⟩ := DataW.trod_int Tryd.underlying61 t5
      obtain ⟨n6, e6, -, w6⟩ := DataW.trod_int Tryd.underlying3 t6
      obtain ⟨n7, e7, -, w7⟩ := DataW.trod_int Tryd.underlying3 t7
      have e0 : c0 = .int .u8 n0 := by simpa using e0
      have e1 : c1 = .int .i64 n1 := by simpa using e1
      have e2 : c2 = .int .i64 n2 := by simpa using e2
      have e3 : c3 = .float .f64 n3 := by simpa using e3
      have e5 : c5 = .int .u8 n5 := by simpa using e5
      have e6 : c6 = .int .i64 n6 := by simpa using e6
      have e7 : c7 = .int .i64 n7 := by simpa using e7
      have q0 := bounds_u8 w0
      have q5 := bounds_u8 w5
      obtain ⟨u0, rfl⟩ := Int.eq_ofNat_of_zero_le q0.1
      obtain ⟨u5, rfl⟩ := Int.eq_ofNat_of_zero_le q5.1
      subst e0 e1 e2 e3 e4 e5 e6 e7
      exact ⟨⟨u0, n1, n2, n3, l4, u5, n6, n7⟩, a4, k4, rfl, r4, h4, by show l4.length ≤ _; omega, ⟨by show u0 < 256; omega, bounds_i64 w1, bounds_i64 w2, bounds_f64 w3, m4, by show u5 < 256; omega, bounds_i64 w6, bounds_i64 w7⟩⟩
set_option maxRecDepth 100000 in
theorem okWide_node {base : Nat} {v : Value} (hv : Value.okWide Tryd.prog W .any base 63 v) : ∃ cs, v = .agg cs ∧ cs.size = 8 := by
  obtain ⟨cs, rfl, hcs⟩ := okWide_struct Tryd.underlying63 hv
  exact ⟨cs, rfl, by rw [cells63] at hcs; exact hcs⟩
set_option maxRecDepth 100000 in
/-- An argument that is a node. -/
theorem arg_node {base : Nat} {v : Value} {d : DataW H} {p : List MemPlace} (hv : Value.okWide Tryd.prog W .any base 63 v) (h : DataW.Trod enc Tryd.prog W 0 (fun _ => true) true 63 v d p) (hz : Sz 63 d) :
    ∃ (n : Nd) (ca : Option Addr) (cap : Nat), v = n.v ca cap ∧ RdI W ca n.cs ∧ n.cs.length ≤ cap ∧ n.cs.length ≤ 17592186044416 ∧ n.Fit := by
  obtain ⟨cs, rfl, -⟩ := okWide_node hv
  obtain ⟨fuel, hf⟩ := h
  obtain ⟨n, ca, cap, e, r⟩ := open_node hf hz
  refine ⟨n, ca, cap, ?_, r⟩
  simp only [Value.cells] at e
  unfold Nd.v
  rw [← e]
/-- Nodes in a cell, opened. -/
theorem open_nodes {fuel : Nat} {v : Value} {y : DataW H × List MemPlace} (hf : DataW.trod enc Tryd.prog W 0 (fun _ => true) true fuel 22 [v] = some y) (hz : Sz 22 y.1) :
    ∃ a cap L, v = .slice a (L : List Nd).length cap ∧ L.length ≤ cap ∧ RdN W a L ∧ L.length ≤ 2199023255552 ∧ cap ≤ 2199023255552 := by
  rcases Go.Deep.open_slice Tryd.underlying22 hf with ⟨hcs, _⟩ | ⟨a, len, cap, m, n, D, Pl, hcs, hb, hl, hm, hmm, rfl, hx⟩
  · simp at hcs
    subst hcs
    exact ⟨none, 0, [], rfl, Nat.le_refl _, by intro j hj; simp at hj, by simp, by omega⟩
  · simp at hcs
    subst hcs
    simp only [if_true] at hmm
    subst hmm
    obtain ⟨hs, hd⟩ := hz.slice Tryd.underlying22
    rw [bytes63] at hs
    simp only [reachBytes, List.length_map, List.length_range] at hs
    rw [cells63] at hx
    have each : ∀ i, i < len → ∃ q : Nd × Option Addr × Nat, NdAt W a.block (a.off + i * 8) q.1 q.2.1 q.2.2 ∧ a.spot = none := by
      intro i hi
      obtain ⟨cs', h1, h2⟩ := hx i (by omega)
      obtain ⟨cs0, h10, h20⟩ := hx 0 (by omega)
      obtain ⟨-, -, hcell0⟩ := World.cells?_some h10
      obtain ⟨nd0', ca0', cp0', rfl, -⟩ := open_node h20 (hd _ (List.mem_map.2 ⟨0, List.mem_range.2 (by omega), rfl⟩))
      have hsp : a.spot = none := by
        have := hcell0 0 (by omega)
        simpa [Addr.add] using World.cell?_spot this
      obtain ⟨-, hlen, hcell⟩ := World.cells?_some h1
      obtain ⟨nd, ca, cp, rfl, r1, r2, r3, r4⟩ := open_node h2 (hd _ (List.mem_map.2 ⟨i, List.mem_range.2 hi, rfl⟩))
      obtain ⟨b, off, sp⟩ := a
      simp only at hsp
      subst hsp
      have cell : ∀ k, k < 8 → W.cell? ⟨b, off + i * 8 + k, none⟩ = ([.int .u8 nd.kd, .int .i64 nd.vl, .int .i64 nd.ft, .float .f64 nd.th, .slice ca nd.cs.length cp, .int .u8 nd.ms, .int .i64 nd.lf, .int .i64 nd.rt] : List Value)[k]? := by
        intro k hk
        rw [← hcell k hk, Go.WideShapes.add_plain, Go.WideShapes.add_plain]
      exact ⟨⟨nd, ca, cp⟩, ⟨cell 0 (by omega), cell 1 (by omega), cell 2 (by omega), cell 3 (by omega), cell 4 (by omega), cell 5 (by omega), cell 6 (by omega), cell 7 (by omega), r1, r2, r3, r4⟩, rfl⟩
    haveI : Inhabited (Nd × Option Addr × Nat) := ⟨(nd0, none, 0)⟩
    obtain ⟨q, hq⟩ := Go.Deep.choose_lt each
    refine ⟨some a, m, (List.range len).map (fun i => (q i).1), by simp, by simpa using hl, ?_, by simp; omega, by omega⟩
    intro j hj
    simp only [List.length_map, List.length_range] at hj
    obtain ⟨h1, h2⟩ := hq j hj
    obtain ⟨b, off, sp⟩ := a
    simp only at h2
    subst h2
    refine ⟨b, off, (q j).2.1, (q j).2.2, rfl, ?_⟩
    have : ((List.range len).map (fun i => (q i).1)).getD j nd0 = (q j).1 := by simp [List.getD, hj]
    rw [this]
    exact h1
end
end Go.Proofs.YtcdcheecaphmgaaDoor

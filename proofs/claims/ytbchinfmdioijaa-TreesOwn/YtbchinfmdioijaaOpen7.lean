import Derived.Test.YtbchinfmdioijaaOpen3
import Derived.Test.YtbchinfmdioijaaS5
set_option linter.unusedVariables false
set_option linter.unusedSimpArgs false
namespace Go.Proofs.Ytbchinfmdioijaa
open Go.ChangeShapes Go.WideShapes Go.ChangeAt Go.RowKit
theorem bytes24' : Try.prog.bytesOf 24 = 32 := by kernel_rfl
section
variable {H : Type} {enc : TypeId × Value → H} {W : World}
/-- How many nodes a row may have: 80 bytes each. -/
theorem nodes_len {fuel : Nat} {v : Value} {y : DataW H × List MemPlace} {a : Option Addr} {n cap : Nat} (hf : DataW.trod enc Try.prog W 0 (fun _ => true) true fuel 22 [v] = some y) (hz : Sz 22 y.1) (hv : v = .slice a n cap) : n ≤ 1759218604441 := by
  rcases Go.Deep.open_slice Try.underlying22 hf with ⟨hcs, _⟩ | ⟨a, len, cap, m, k, D, Pl, hcs, hb, hl, hm, hmm, rfl, hx⟩
  · simp at hcs
    subst hcs
    simp only [Value.slice.injEq] at hv
    omega
  · simp at hcs
    subst hcs
    simp only [if_true] at hmm
    subst hmm
    obtain ⟨hs, hd⟩ := hz.slice Try.underlying22
    rw [bytes40] at hs
    simp only [reachBytes, List.length_map, List.length_range] at hs
    simp only [Value.slice.injEq] at hv
    omega
set_option maxRecDepth 100000 in
/-- A tree's cells, opened. -/
theorem open_tree2 {fuel : Nat} {cs : List Value} {y : DataW H × List MemPlace} (hf : DataW.trod enc Try.prog W 0 (fun _ => true) true fuel 24 cs = some y) (hz : Sz 24 y.1) :
    ∃ (o : Int) (a : Option Addr) (cap : Nat) (L : List Nd), cs = [.int .i64 o, .slice a L.length cap] ∧ L.length ≤ cap ∧ RdN W a L ∧ L.length ≤ 1759218604441 ∧ (-9223372036854775808 ≤ o ∧ o ≤ 9223372036854775807) := by
  obtain ⟨xs, m, -, rfl, hcs, hxs, hfld⟩ := DataW.trod_struct Try.underlying24 hf
  rw [cells24] at hcs
  match cs, hcs with
  | [c0, c1], _ =>
    match xs, hxs with
    | [y0, y1], _ =>
      have t0 : DataW.trod enc Try.prog W 0 (fun _ => true) true m 3 [c0] = some y0 := by have h := hfld 0 _ rfl; simpa [cells3] using h
      have t1 : DataW.trod enc Try.prog W 0 (fun _ => true) true m 22 [c1] = some y1 := by have h := hfld 1 _ rfl; simpa [cells22] using h
      have z1 : Sz 22 y1.1 := hz.agg Try.underlying24 (i := 1) rfl rfl
      obtain ⟨n0, e0, -, w0⟩ := DataW.trod_int Try.underlying3 t0
      obtain ⟨a, cap, L, e1, h1, r1, l1, -⟩ := open_nodes t1 z1
      have l2 := nodes_len t1 z1 e1
      have e0 : c0 = .int .i64 n0 := by simpa using e0
      subst e0 e1
      exact ⟨n0, a, cap, L, rfl, h1, r1, l2, bounds_i64 w0⟩
/-- Trees in a cell, opened. -/
theorem open_trees {fuel : Nat} {v : Value} {y : DataW H × List MemPlace} (hf : DataW.trod enc Try.prog W 0 (fun _ => true) true fuel 50 [v] = some y) (hz : Sz 50 y.1) :
    ∃ a cap ts, v = .slice a (ts : List (Int × List Nd)).length cap ∧ ts.length ≤ cap ∧ RdT W a ts ∧ ts.length ≤ 4398046511104 ∧ (∀ j, j < ts.length → (ts.getD j (0, [])).2.length ≤ 1759218604441) := by
  rcases Go.Deep.open_slice Try.underlying50 hf with ⟨hcs, _⟩ | ⟨a, len, cap, m, n, D, Pl, hcs, hb, hl, hm, hmm, rfl, hx⟩
  · simp at hcs
    subst hcs
    exact ⟨none, 0, [], rfl, Nat.le_refl _, by intro j hj; simp at hj, by simp, by intro j hj; simp at hj⟩
  · simp at hcs
    subst hcs
    simp only [if_true] at hmm
    subst hmm
    obtain ⟨hs, hd⟩ := hz.slice Try.underlying50
    rw [bytes24'] at hs
    simp only [reachBytes, List.length_map, List.length_range] at hs
    rw [cells24] at hx
    have each : ∀ i, i < len → ∃ q : (Int × List Nd) × Option Addr × Nat, a.spot = none ∧ W.cell? ⟨a.block, a.off + i * 2, none⟩ = some (.int .i64 q.1.1) ∧ W.cell? ⟨a.block, a.off + i * 2 + 1, none⟩ = some (.slice q.2.1 q.1.2.length q.2.2) ∧ RdN W q.2.1 q.1.2 ∧ q.1.2.length ≤ q.2.2 ∧ q.1.2.length ≤ 1759218604441 ∧ (-9223372036854775808 ≤ q.1.1 ∧ q.1.1 ≤ 9223372036854775807) := by
      intro i hi
      obtain ⟨cs', h1, h2⟩ := hx i (by omega)
      obtain ⟨cs0, h10, h20⟩ := hx 0 (by omega)
      obtain ⟨-, -, hcell0⟩ := World.cells?_some h10
      obtain ⟨o0', a0', cp0', L0', rfl, -⟩ := open_tree2 h20 (hd _ (List.mem_map.2 ⟨0, List.mem_range.2 (by omega), rfl⟩))
      have hsp : a.spot = none := by
        have := hcell0 0 (by omega)
        simpa [Addr.add] using World.cell?_spot this
      obtain ⟨-, hlen, hcell⟩ := World.cells?_some h1
      obtain ⟨ot, na, cp, L, rfl, r1, r2, r3, r4⟩ := open_tree2 h2 (hd _ (List.mem_map.2 ⟨i, List.mem_range.2 hi, rfl⟩))
      obtain ⟨b, off, sp⟩ := a
      simp only at hsp
      subst hsp
      have cell : ∀ k, k < 2 → W.cell? ⟨b, off + i * 2 + k, none⟩ = ([.int .i64 ot, .slice na L.length cp] : List Value)[k]? := by
        intro k hk
        rw [← hcell k hk, Go.WideShapes.add_plain, Go.WideShapes.add_plain]
      exact ⟨⟨(ot, L), na, cp⟩, rfl, cell 0 (by omega), cell 1 (by omega), r2, r1, r3, r4⟩
    haveI : Inhabited ((Int × List Nd) × Option Addr × Nat) := ⟨((0, []), none, 0)⟩
    obtain ⟨q, hq⟩ := Go.Deep.choose_lt each
    have hg : ∀ j, j < len → ((List.range len).map (fun i => (q i).1)).getD j (0, []) = (q j).1 := by intro j hj; simp [List.getD, hj]
    refine ⟨some a, m, (List.range len).map (fun i => (q i).1), by simp, by simpa using hl, ?_, by simp; omega, ?_⟩
    · intro j hj
      simp only [List.length_map, List.length_range] at hj
      obtain ⟨h1, h2, h3, h4, h5, h6, h7⟩ := hq j hj
      obtain ⟨b, off, sp⟩ := a
      simp only at h1
      subst h1
      rw [hg j hj]
      exact ⟨b, off, (q j).2.1, (q j).2.2, rfl, h2, h3, h4, h5, by omega, h7⟩
    · intro j hj
      simp only [List.length_map, List.length_range] at hj
      rw [hg j hj]
      exact (hq j hj).2.2.2.2.2.1
end
end Go.Proofs.Ytbchinfmdioijaa
set_option linter.unusedVariables false
set_option linter.unusedSimpArgs false
namespace Go.Proofs.Ytbchinfmdioijaa
open Go.ChangeShapes Go.WideShapes Go.ChangeAt Go.RowKit
section
variable {H : Type} {enc : TypeId × Value → H} {W : World}
/-- Texts in a cell, opened. -/
theorem open_texts {fuel : Nat} {v : Value} {y : DataW H × List MemPlace} (hf : DataW.trod enc Try.prog W 0 (fun _ => true) true fuel 48 [v] = some y) (hz : Sz 48 y.1) :
    ∃ a cap l, v = .slice a (l : List ByteArray).length cap ∧ l.length ≤ cap ∧ RdS W a l ∧ l.length ≤ 8796093022208 := by
  rcases Go.Deep.open_slice Try.underlying48 hf with ⟨hcs, _⟩ | ⟨a, len, cap, m, n, D, Pl, hcs, hb, hl, hm, hmm, rfl, hx⟩
  · simp at hcs
    subst hcs
    exact ⟨none, 0, [], rfl, Nat.le_refl _, by intro j hj; simp at hj, by simp⟩
  · simp at hcs
    subst hcs
    simp only [if_true] at hmm
    subst hmm
    obtain ⟨hs, hd⟩ := hz.slice Try.underlying48
    rw [bytes9] at hs
    simp only [reachBytes, List.length_map, List.length_range] at hs
    rw [cells9] at hx
    have each : ∀ i, i < len → ∃ q : ByteArray, W.cell? ⟨a.block, a.off + i, none⟩ = some (.string q) ∧ a.spot = none := by
      intro i hi
      obtain ⟨cs', h1, h2⟩ := hx i (by omega)
      obtain ⟨cs0, h10, h20⟩ := hx 0 (by omega)
      obtain ⟨-, -, hcell0⟩ := World.cells?_some h10
      obtain ⟨b0, rfl, -⟩ := DataW.trod_string Try.underlying9 h20
      have hsp : a.spot = none := by
        have := hcell0 0 (by omega)
        simpa [Addr.add] using World.cell?_spot this
      obtain ⟨-, hlen, hcell⟩ := World.cells?_some h1
      obtain ⟨b1, rfl, -⟩ := DataW.trod_string Try.underlying9 h2
      obtain ⟨b, off, sp⟩ := a
      simp only at hsp
      subst hsp
      have := hcell 0 (by omega)
      rw [Go.WideShapes.add_plain, Go.WideShapes.add_plain] at this
      exact ⟨b1, by simpa using this, rfl⟩
    haveI : Inhabited ByteArray := ⟨ByteArray.empty⟩
    obtain ⟨q, hq⟩ := Go.Deep.choose_lt each
    refine ⟨some a, m, (List.range len).map q, by simp, by simpa using hl, ?_, by simp; omega⟩
    intro j hj
    simp only [List.length_map, List.length_range] at hj
    obtain ⟨h1, h2⟩ := hq j hj
    obtain ⟨b, off, sp⟩ := a
    simp only at h2
    subst h2
    refine ⟨b, off, rfl, ?_⟩
    have : ((List.range len).map q).getD j ByteArray.empty = q j := by simp [List.getD, hj]
    rw [this]
    exact h1
set_option maxRecDepth 100000 in
/-- An argument that is an ensemble. -/
theorem arg_ens {base : Nat} {v : Value} {d : DataW H} {p : List MemPlace} (hv : Value.okWide Try.prog W .any base 52 v) (h : DataW.Trod enc Try.prog W 0 (fun _ => true) true 52 v d p) (hz : Sz 52 d) :
    ∃ (nm : ByteArray) (fa : Option Addr) (fs : List ByteArray) (cf : Nat) (N : Int) (ba : Option Addr) (bs : List Int) (cb : Nat) (ta : Option Addr) (ts : List (Int × List Nd)) (ct : Nat),
      v = ens nm fa fs.length cf N ba bs.length cb ta ts.length ct ∧ nm.size ≤ maxLen ∧ fs.length ≤ cf ∧ RdS W fa fs ∧ fs.length ≤ 8796093022208 ∧ (-9223372036854775808 ≤ N ∧ N ≤ 9223372036854775807) ∧
      bs.length ≤ cb ∧ RdI W ba bs ∧ (∀ x ∈ bs, -9223372036854775808 ≤ x ∧ x ≤ 9223372036854775807) ∧ bs.length ≤ 17592186044416 ∧
      ts.length ≤ ct ∧ RdT W ta ts ∧ ts.length ≤ 4398046511104 ∧ (∀ j, j < ts.length → (ts.getD j (0, [])).2.length ≤ 1759218604441) := by
  obtain ⟨cs, rfl, -⟩ := okWide_struct Try.underlying52 hv
  obtain ⟨fuel, hf⟩ := h
  obtain ⟨xs, m, -, hdp, hcs, hxs, hfld⟩ := DataW.trod_struct Try.underlying52 hf
  simp only [Prod.mk.injEq] at hdp
  obtain ⟨rfl, -⟩ := hdp
  rw [show Try.prog.cellsOf 52 = 5 by kernel_rfl] at hcs
  simp only [Value.cells] at hcs hfld
  obtain ⟨l⟩ := cs
  simp only at hcs hfld
  match l, hcs with
  | [c0, c1, c2, c3, c4], _ =>
    match xs, hxs with
    | [y0, y1, y2, y3, y4], _ =>
      have t0 : DataW.trod enc Try.prog W 0 (fun _ => true) true m 9 [c0] = some y0 := by have h := hfld 0 _ rfl; simpa [cells9] using h
      have t1 : DataW.trod enc Try.prog W 0 (fun _ => true) true m 48 [c1] = some y1 := by have h := hfld 1 _ rfl; simpa [cells9, cells48] using h
      have t2 : DataW.trod enc Try.prog W 0 (fun _ => true) true m 3 [c2] = some y2 := by have h := hfld 2 _ rfl; simpa [cells9, cells48, cells3] using h
      have t3 : DataW.trod enc Try.prog W 0 (fun _ => true) true m 49 [c3] = some y3 := by have h := hfld 3 _ rfl; simpa [cells9, cells48, cells3, cells49] using h
      have t4 : DataW.trod enc Try.prog W 0 (fun _ => true) true m 50 [c4] = some y4 := by have h := hfld 4 _ rfl; simpa [cells9, cells48, cells3, cells49, cells50] using h
      have z1 : Sz 48 y1.1 := hz.agg Try.underlying52 (i := 1) rfl rfl
      have z3 : Sz 49 y3.1 := hz.agg Try.underlying52 (i := 3) rfl rfl
      have z4 : Sz 50 y4.1 := hz.agg Try.underlying52 (i := 4) rfl rfl
      obtain ⟨nm, e0, -, w0⟩ := DataW.trod_string Try.underlying9 t0
      obtain ⟨fa, cf, fs, e1, h1, r1, l1⟩ := open_texts t1 z1
      obtain ⟨N, e2, -, w2⟩ := DataW.trod_int Try.underlying3 t2
      obtain ⟨ba, cb, bs, e3, h3, r3, x3, l3⟩ := open_ints_c Try.underlying49 Try.underlying2 cells2 bytes2 t3 z3
      obtain ⟨ta, ct, ts, e4, h4, r4, l4, x4⟩ := open_trees t4 z4
      have e0 : c0 = .string nm := by simpa using e0
      have e2 : c2 = .int .i64 N := by simpa using e2
      subst e0 e1 e2 e3 e4
      exact ⟨nm, fa, fs, cf, N, ba, bs, cb, ta, ts, ct, rfl, by simpa using w0, h1, r1, l1, bounds_i64 w2, h3, r3, x3, by omega, h4, r4, l4, x4⟩
end
end Go.Proofs.Ytbchinfmdioijaa
set_option linter.unusedVariables false
set_option linter.unusedSimpArgs false
namespace Go.Proofs.Ytbchinfmdioijaa
open Go.ChangeShapes Go.WideShapes Go.ChangeAt Go.RowKit
section
variable {H : Type} {enc : TypeId × Value → H} {W : World}
theorem Sz.text {t : TypeId} {s : ByteArray} (h : Sz t (DataW.lit (H := H) (.string s.data.toList))) : s.size ≤ 281474976710656 := by
  have h1 := h s.size (by simp [DataW.weights])
  simp only [reachBytes] at h1
  omega
/-- Texts in a cell, opened, and their sizes. -/
theorem open_texts2 {fuel : Nat} {v : Value} {y : DataW H × List MemPlace} (hf : DataW.trod enc Try.prog W 0 (fun _ => true) true fuel 48 [v] = some y) (hz : Sz 48 y.1) :
    ∃ a cap l, v = .slice a (l : List ByteArray).length cap ∧ l.length ≤ cap ∧ RdS W a l ∧ l.length ≤ 8796093022208 ∧ ∀ j, j < l.length → (l.getD j ByteArray.empty).size ≤ 281474976710656 := by
  rcases Go.Deep.open_slice Try.underlying48 hf with ⟨hcs, _⟩ | ⟨a, len, cap, m, n, D, Pl, hcs, hb, hl, hm, hmm, rfl, hx⟩
  · simp at hcs
    subst hcs
    exact ⟨none, 0, [], rfl, Nat.le_refl _, by intro j hj; simp at hj, by simp, by intro j hj; simp at hj⟩
  · simp at hcs
    subst hcs
    simp only [if_true] at hmm
    subst hmm
    obtain ⟨hs, hd⟩ := hz.slice Try.underlying48
    rw [bytes9] at hs
    simp only [reachBytes, List.length_map, List.length_range] at hs
    rw [cells9] at hx
    have each : ∀ i, i < len → ∃ q : ByteArray, W.cell? ⟨a.block, a.off + i, none⟩ = some (.string q) ∧ a.spot = none ∧ q.size ≤ 281474976710656 := by
      intro i hi
      obtain ⟨cs', h1, h2⟩ := hx i (by omega)
      obtain ⟨cs0, h10, h20⟩ := hx 0 (by omega)
      obtain ⟨-, -, hcell0⟩ := World.cells?_some h10
      obtain ⟨b0, rfl, -⟩ := DataW.trod_string Try.underlying9 h20
      have hsp : a.spot = none := by
        have := hcell0 0 (by omega)
        simpa [Addr.add] using World.cell?_spot this
      obtain ⟨-, hlen, hcell⟩ := World.cells?_some h1
      obtain ⟨b1, rfl, hb1, -⟩ := DataW.trod_string Try.underlying9 h2
      have hzz : b1.size ≤ 281474976710656 := by
        have h3 := hd (D i) (List.mem_map.2 ⟨i, List.mem_range.2 (by omega), rfl⟩)
        rw [Prod.mk.injEq] at hb1
        rw [hb1.1] at h3
        exact h3.text
      obtain ⟨b, off, sp⟩ := a
      simp only at hsp
      subst hsp
      have := hcell 0 (by omega)
      rw [Go.WideShapes.add_plain, Go.WideShapes.add_plain] at this
      exact ⟨b1, by simpa using this, rfl, hzz⟩
    haveI : Inhabited ByteArray := ⟨ByteArray.empty⟩
    obtain ⟨q, hq⟩ := Go.Deep.choose_lt each
    refine ⟨some a, m, (List.range len).map q, by simp, by simpa using hl, ?_, by simp; omega, fun j hj => ?_⟩
    rotate_left
    · simp only [List.length_map, List.length_range] at hj
      have : ((List.range len).map q).getD j ByteArray.empty = q j := by simp [List.getD, hj]
      rw [this]
      exact (hq j hj).2.2
    intro j hj
    simp only [List.length_map, List.length_range] at hj
    obtain ⟨h1, h2, -⟩ := hq j hj
    obtain ⟨b, off, sp⟩ := a
    simp only at h2
    subst h2
    refine ⟨b, off, rfl, ?_⟩
    have : ((List.range len).map q).getD j ByteArray.empty = q j := by simp [List.getD, hj]
    rw [this]
    exact h1
set_option maxRecDepth 100000 in
/-- An argument that is an ensemble. -/
theorem arg_ens2 {base : Nat} {v : Value} {d : DataW H} {p : List MemPlace} (hv : Value.okWide Try.prog W .any base 52 v) (h : DataW.Trod enc Try.prog W 0 (fun _ => true) true 52 v d p) (hz : Sz 52 d) :
    ∃ (nm : ByteArray) (fa : Option Addr) (fs : List ByteArray) (cf : Nat) (N : Int) (ba : Option Addr) (bs : List Int) (cb : Nat) (ta : Option Addr) (ts : List (Int × List Nd)) (ct : Nat),
      v = ens nm fa fs.length cf N ba bs.length cb ta ts.length ct ∧ nm.size ≤ 281474976710656 ∧ fs.length ≤ cf ∧ RdS W fa fs ∧ fs.length ≤ 8796093022208 ∧ (∀ j, j < fs.length → (fs.getD j ByteArray.empty).size ≤ 281474976710656) ∧ (-9223372036854775808 ≤ N ∧ N ≤ 9223372036854775807) ∧
      bs.length ≤ cb ∧ RdI W ba bs ∧ (∀ x ∈ bs, -9223372036854775808 ≤ x ∧ x ≤ 9223372036854775807) ∧ bs.length ≤ 17592186044416 ∧
      ts.length ≤ ct ∧ RdT W ta ts ∧ ts.length ≤ 4398046511104 ∧ (∀ j, j < ts.length → (ts.getD j (0, [])).2.length ≤ 1759218604441) := by
  obtain ⟨cs, rfl, -⟩ := okWide_struct Try.underlying52 hv
  obtain ⟨fuel, hf⟩ := h
  obtain ⟨xs, m, -, hdp, hcs, hxs, hfld⟩ := DataW.trod_struct Try.underlying52 hf
  simp only [Prod.mk.injEq] at hdp
  obtain ⟨rfl, -⟩ := hdp
  rw [show Try.prog.cellsOf 52 = 5 by kernel_rfl] at hcs
  simp only [Value.cells] at hcs hfld
  obtain ⟨l⟩ := cs
  simp only at hcs hfld
  match l, hcs with
  | [c0, c1, c2, c3, c4], _ =>
    match xs, hxs with
    | [y0, y1, y2, y3, y4], _ =>
      have t0 : DataW.trod enc Try.prog W 0 (fun _ => true) true m 9 [c0] = some y0 := by have h := hfld 0 _ rfl; simpa [cells9] using h
      have t1 : DataW.trod enc Try.prog W 0 (fun _ => true) true m 48 [c1] = some y1 := by have h := hfld 1 _ rfl; simpa [cells9, cells48] using h
      have t2 : DataW.trod enc Try.prog W 0 (fun _ => true) true m 3 [c2] = some y2 := by have h := hfld 2 _ rfl; simpa [cells9, cells48, cells3] using h
      have t3 : DataW.trod enc Try.prog W 0 (fun _ => true) true m 49 [c3] = some y3 := by have h := hfld 3 _ rfl; simpa [cells9, cells48, cells3, cells49] using h
      have t4 : DataW.trod enc Try.prog W 0 (fun _ => true) true m 50 [c4] = some y4 := by have h := hfld 4 _ rfl; simpa [cells9, cells48, cells3, cells49, cells50] using h
      have z0 : Sz 9 y0.1 := hz.agg Try.underlying52 (i := 0) rfl rfl
      have z1 : Sz 48 y1.1 := hz.agg Try.underlying52 (i := 1) rfl rfl
      have z3 : Sz 49 y3.1 := hz.agg Try.underlying52 (i := 3) rfl rfl
      have z4 : Sz 50 y4.1 := hz.agg Try.underlying52 (i := 4) rfl rfl
      obtain ⟨nm, e0, d0, w0⟩ := DataW.trod_string Try.underlying9 t0
      obtain ⟨fa, cf, fs, e1, h1, r1, l1, g1⟩ := open_texts2 t1 z1
      obtain ⟨N, e2, -, w2⟩ := DataW.trod_int Try.underlying3 t2
      obtain ⟨ba, cb, bs, e3, h3, r3, x3, l3⟩ := open_ints_c Try.underlying49 Try.underlying2 cells2 bytes2 t3 z3
      obtain ⟨ta, ct, ts, e4, h4, r4, l4, x4⟩ := open_trees t4 z4
      have n0 : nm.size ≤ 281474976710656 := by
        rw [d0] at z0
        exact z0.text
      have e0 : c0 = .string nm := by simpa using e0
      have e2 : c2 = .int .i64 N := by simpa using e2
      subst e0 e1 e2 e3 e4
      exact ⟨nm, fa, fs, cf, N, ba, bs, cb, ta, ts, ct, rfl, n0, h1, r1, l1, g1, bounds_i64 w2, h3, r3, x3, by omega, h4, r4, l4, x4⟩
end
end Go.Proofs.Ytbchinfmdioijaa

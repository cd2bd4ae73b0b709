import Derived.Test.YtaogjiffnebnkaaTS6
import Derived.Test.YtaogjiffnebnkaaRows
import Derived.Test.YtaogjiffnebnkaaChecked
import Derived.ProofKit
import Derived.OpenShut
import Derived.SizedLaws
import Derived.Deep.DeepHandedRow
import Derived.Lib.LaidTab
import Derived.Deep.Slices
import Derived.Laws.Cover2
set_option linter.unusedVariables false
set_option linter.unusedSimpArgs false
namespace Go.Proofs.Ytaogjiffnebnkaa
open Go.ChangeShapes Go.WideShapes Go.ChangeAt Go.RowKit
theorem own : ownKnob Try.prog.godebug = none := by kernel_rfl
theorem laidOut : laidOutB Try.prog = true := by kernel_rfl
theorem cells2 : Try.prog.cellsOf 2 = 1 := by kernel_rfl
theorem cells3 : Try.prog.cellsOf 3 = 1 := by kernel_rfl
theorem cells22 : Try.prog.cellsOf 52 = 1 := by kernel_rfl
theorem cells24 : Try.prog.cellsOf 54 = 2 := by kernel_rfl
theorem cells29 : Try.prog.cellsOf 55 = 1 := by kernel_rfl
theorem cells36 : Try.prog.cellsOf 80 = 1 := by kernel_rfl
theorem cells37 : Try.prog.cellsOf 34 = 1 := by kernel_rfl
theorem cells38 : Try.prog.cellsOf 81 = 1 := by kernel_rfl
theorem cells40 : Try.prog.cellsOf 83 = 8 := by kernel_rfl
theorem bytes3 : Try.prog.bytesOf 3 = 8 := by kernel_rfl
theorem bytes40 : Try.prog.bytesOf 83 = 80 := by kernel_rfl
/-- All that is in a datum is of a size that fits. -/
def Sz {H : Type} (t : TypeId) (d : DataW H) : Prop := ∀ n ∈ d.weights Try.prog t, n ≤ reachBytes
theorem weightsAll_mem {H : Type} {e : TypeId} : ∀ {l : List (DataW H)} {d : DataW H} {n : Nat}, d ∈ l → n ∈ d.weights Try.prog e → n ∈ DataW.weightsAll Try.prog e l
  | [], d, n, h, _ => by simp at h
  | x :: l, d, n, h, hn => by
    rw [DataW.weightsAll, List.mem_append]
    rcases List.mem_cons.1 h with rfl | h
    · exact .inl hn
    · exact .inr (weightsAll_mem h hn)
theorem Sz.slice {H : Type} {t e : TypeId} {el sp : List (DataW H)} (h : Sz t (.slice el sp)) (ht : Try.prog.underlying t = some (.slice e)) : (el.length + sp.length) * Try.prog.bytesOf e ≤ reachBytes ∧ ∀ d ∈ el, Sz e d := by
  have hw : (DataW.slice el sp).weights Try.prog t = (el.length + sp.length) * Try.prog.bytesOf e :: (DataW.weightsAll Try.prog e el ++ DataW.weightsAll Try.prog e sp) := by
    simp [DataW.weights, ht]
  refine ⟨h _ (by rw [hw]; simp), fun d hd n hn => h n ?_⟩
  rw [hw]
  exact List.mem_cons_of_mem _ (List.mem_append_left _ (weightsAll_mem hd hn))
theorem Sz.agg {H : Type} {t : TypeId} {fs : Array Field} {ds : List (DataW H)} (h : Sz t (.agg ds)) (ht : Try.prog.underlying t = some (.struct fs)) {i : Nat} {f : Field} {d : DataW H} (hf : fs[i]? = some f) (hd : ds[i]? = some d) : Sz f.type d := by
  intro n hn
  refine h n ?_
  have hw : (DataW.agg ds).weights Try.prog t = DataW.weightsEach Try.prog (fs.toList.map (·.type)) ds := by
    simp [DataW.weights, ht]
  rw [hw]
  refine DataW.weights_mem_each (j := i) (t := f.type) ?_ hd n hn
  simp [hf]
theorem Sz.arg {H : Type} {ts : List TypeId} {ds : List (DataW H)} (hsz : (DataW.weightsEach Try.prog ts ds).all (· ≤ reachBytes) = true) {j : Nat} {t : TypeId} {d : DataW H} (ht : ts[j]? = some t) (hd : ds[j]? = some d) : Sz t d := by
  intro n hn
  have := List.all_eq_true.1 hsz n (DataW.weights_mem_each ht hd n hn)
  simpa using this
section
variable {H : Type} {enc : TypeId × Value → H} {W : World}
/-- A list of whole numbers in a cell, opened. -/
theorem open_ints_c {S E : TypeId} (hS : Try.prog.underlying S = some (.slice E)) (hE : Try.prog.underlying E = some (.int .i64)) (hc : Try.prog.cellsOf E = 1) (hb : Try.prog.bytesOf E = 8) {fuel : Nat} {v : Value} {y : DataW H × List MemPlace} (hf : DataW.trod enc Try.prog W 0 (fun _ => true) true fuel S [v] = some y) (hz : Sz S y.1) :
    ∃ a c l, v = .slice a l.length c ∧ l.length ≤ c ∧ RdI W a l ∧ (∀ x ∈ l, -9223372036854775808 ≤ x ∧ x ≤ 9223372036854775807) ∧ c ≤ 17592186044416 := by
  rcases open_ints hS hE hc hf with ⟨hcs, _⟩ | ⟨x, len, cap, zs, hcs, _, hl, hm, hzs, hx, hcell, hwz⟩
  · simp at hcs
    subst hcs
    exact ⟨none, 0, [], rfl, Nat.le_refl _, RdI.nil _ _, by intro x hx; simp at hx, by omega⟩
  · simp at hcs
    subst hcs
    subst hx
    simp only [if_true] at hzs
    have hlen : (zs.take len).length = len := by simp; omega
    have hsz := (hz.slice hS).1
    rw [hb] at hsz
    simp only [reachBytes, lits, List.length_map, List.length_take, List.length_drop] at hsz
    refine ⟨some x, cap, zs.take len, by rw [hlen], by omega, ?_, ?_, by omega⟩
    · intro j hj
      rw [hlen] at hj
      obtain ⟨b, off, rfl, hc⟩ := ints_at hcell (by omega)
      refine ⟨b, off, rfl, ?_⟩
      rw [hc j (by omega)]
      have e : (zs.take len).getD j 0 = zs.getD j 0 := by simp [List.getD, hj]
      rw [e]
    · intro y hy
      exact bounds_i64 (hwz y (List.mem_of_mem_take hy))
theorem trod_float {t : TypeId} {k : FloatKind} {fuel : Nat} {cs : List Value} {x : DataW H × List MemPlace} (ht : Try.prog.underlying t = some (.float k)) (h : DataW.trod enc Try.prog W 0 (fun _ => true) true fuel t cs = some x) : ∃ b, cs = [.float k b] ∧ (Lit.float k b).wf = true := by
  cases fuel with
  | zero => simp [DataW.trod] at h
  | succ n =>
    unfold DataW.trod at h
    rw [ht] at h
    split at h
    all_goals simp_all
end
end Go.Proofs.Ytaogjiffnebnkaa
set_option linter.unusedVariables false
set_option linter.unusedSimpArgs false
namespace Go.Proofs.Ytaogjiffnebnkaa
open Go.ChangeShapes Go.WideShapes Go.ChangeAt Go.RowKit
section
variable {H : Type} {enc : TypeId × Value → H} {W : World}
theorem bounds_u8 {n : Int} (h : (Lit.int .u8 n).wf = true) : 0 ≤ n ∧ n < 256 := by
  simp only [Lit.wf, IntKind.min, IntKind.max, IntKind.signed, IntKind.bits, Bool.and_eq_true, decide_eq_true_eq] at h
  simp at h
  omega
theorem bounds_f64 {b : Nat} (h : (Lit.float .f64 b).wf = true) : b < 18446744073709551616 := by
  simp only [Lit.wf, decide_eq_true_eq] at h
  have : (2 : Nat) ^ 64 = 18446744073709551616 := by decide
  omega
set_option maxRecDepth 100000 in
/-- A node's cells, opened. -/
theorem open_node {fuel : Nat} {cs : List Value} {y : DataW H × List MemPlace} (hf : DataW.trod enc Try.prog W 0 (fun _ => true) true fuel 83 cs = some y) (hz : Sz 83 y.1) :
    ∃ (n : Nd) (ca : Option Addr) (cap : Nat), cs = [.int .u8 n.kd, .int .i64 n.vl, .int .i64 n.ft, .float .f64 n.th, .slice ca n.cs.length cap, .int .u8 n.ms, .int .i64 n.lf, .int .i64 n.rt] ∧ RdI W ca n.cs ∧ n.cs.length ≤ cap ∧ n.cs.length ≤ 17592186044416 ∧ n.Fit := by
  obtain ⟨xs, m, -, rfl, hcs, hxs, hfld⟩ := DataW.trod_struct Try.underlying83 hf
  rw [cells40] at hcs
  match cs, hcs with
  | [c0, c1, c2, c3, c4, c5, c6, c7], _ =>
    match xs, hxs with
    | [y0, y1, y2, y3, y4, y5, y6, y7], _ =>
      have t0 : DataW.trod enc Try.prog W 0 (fun _ => true) true m 80 [c0] = some y0 := by have h := hfld 0 _ rfl; simpa [cells36] using h
      have t1 : DataW.trod enc Try.prog W 0 (fun _ => true) true m 2 [c1] = some y1 := by have h := hfld 1 _ rfl; simpa [cells2] using h
      have t2 : DataW.trod enc Try.prog W 0 (fun _ => true) true m 3 [c2] = some y2 := by have h := hfld 2 _ rfl; simpa [cells3] using h
      have t3 : DataW.trod enc Try.prog W 0 (fun _ => true) true m 34 [c3] = some y3 := by have h := hfld 3 _ rfl; simpa [cells37] using h
      have t4 : DataW.trod enc Try.prog W 0 (fun _ => true) true m 55 [c4] = some y4 := by have h := hfld 4 _ rfl; simpa [cells29] using h
      have t5 : DataW.trod enc Try.prog W 0 (fun _ => true) true m 81 [c5] = some y5 := by have h := hfld 5 _ rfl; simpa [cells38] using h
      have t6 : DataW.trod enc Try.prog W 0 (fun _ => true) true m 3 [c6] = some y6 := by have h := hfld 6 _ rfl; simpa [cells3] using h
      have t7 : DataW.trod enc Try.prog W 0 (fun _ => true) true m 3 [c7] = some y7 := by have h := hfld 7 _ rfl; simpa [cells3] using h
      have z4 : Sz 55 y4.1 := hz.agg Try.underlying83 (i := 4) rfl rfl
      obtain ⟨n0, e0, -, w0⟩ := DataW.trod_int Try.underlying80 t0
      obtain ⟨n1, e1, -, w1⟩ := DataW.trod_int Try.underlying2 t1
      obtain ⟨n2, e2, -, w2⟩ := DataW.trod_int Try.underlying3 t2
      obtain ⟨n3, e3, w3⟩ := trod_float Try.underlying34 t3
      obtain ⟨a4, k4, l4, e4, h4, r4, m4, b4⟩ := open_ints_c Try.underlying55 Try.underlying3 cells3 bytes3 t4 z4
      obtain ⟨n5, e5, -, w5⟩ := DataW.trod_int Try.underlying81 t5
      obtain ⟨n6, e6, -, w6⟩ := DataW.trod_int Try.underlying3 t6
      obtain ⟨n7, e7, -, w7⟩ := DataW.trod_int Try.underlying3 t7
      have e0 : c0 = .int .u8 n0 := by simpa using e0
      have e1 : c1 = .int .i64 n1 := by simpa using e1
      have e2 : c2 = .int .i64 n2 := by simpa using e2
      have e3 : c3 = .float .f64 n3 := by simpa using e3
      have e5 : c5 = .int .u8 n5 := by simpa using e5
      have e6 : c6 = .int .i64 n6 := by simpa using e6
      have e7 : c7 = .int .i64 n7 := by simpa using e7
      have q0 := bounds_u8 w0
      have q5 := bounds_u8 w5
      obtain ⟨u0, rfl⟩ := Int.eq_ofNat_of_zero_le q0.1
      obtain ⟨u5, rfl⟩ := Int.eq_ofNat_of_zero_le q5.1
      subst e0 e1 e2 e3 e4 e5 e6 e7
      exact ⟨⟨u0, n1, n2, n3, l4, u5, n6, n7⟩, a4, k4, rfl, r4, h4, by show l4.length ≤ _; omega, ⟨by show u0 < 256; omega, bounds_i64 w1, bounds_i64 w2, bounds_f64 w3, m4, by show u5 < 256; omega, bounds_i64 w6, bounds_i64 w7⟩⟩
/-- Nodes in a cell, opened. -/
theorem open_nodes {fuel : Nat} {v : Value} {y : DataW H × List MemPlace} (hf : DataW.trod enc Try.prog W 0 (fun _ => true) true fuel 52 [v] = some y) (hz : Sz 52 y.1) :
    ∃ a cap L, v = .slice a (L : List Nd).length cap ∧ L.length ≤ cap ∧ RdN W a L ∧ L.length ≤ 2199023255552 ∧ cap ≤ 2199023255552 := by
  rcases Go.Deep.open_slice Try.underlying52 hf with ⟨hcs, _⟩ | ⟨a, len, cap, m, n, D, Pl, hcs, hb, hl, hm, hmm, rfl, hx⟩
  · simp at hcs
    subst hcs
    exact ⟨none, 0, [], rfl, Nat.le_refl _, by intro j hj; simp at hj, by simp, by omega⟩
  · simp at hcs
    subst hcs
    simp only [if_true] at hmm
    subst hmm
    obtain ⟨hs, hd⟩ := hz.slice Try.underlying52
    rw [bytes40] at hs
    simp only [reachBytes, List.length_map, List.length_range] at hs
    rw [cells40] at hx
    have each : ∀ i, i < len → ∃ q : Nd × Option Addr × Nat, NdAt W a.block (a.off + i * 8) q.1 q.2.1 q.2.2 ∧ a.spot = none := by
      intro i hi
      obtain ⟨cs', h1, h2⟩ := hx i (by omega)
      obtain ⟨cs0, h10, h20⟩ := hx 0 (by omega)
      obtain ⟨-, -, hcell0⟩ := World.cells?_some h10
      obtain ⟨nd0', ca0', cp0', rfl, -⟩ := open_node h20 (hd _ (List.mem_map.2 ⟨0, List.mem_range.2 (by omega), rfl⟩))
      have hsp : a.spot = none := by
        have := hcell0 0 (by omega)
        simpa [Addr.add] using World.cell?_spot this
      obtain ⟨-, hlen, hcell⟩ := World.cells?_some h1
      obtain ⟨nd, ca, cp, rfl, r1, r2, r3, r4⟩ := open_node h2 (hd _ (List.mem_map.2 ⟨i, List.mem_range.2 hi, rfl⟩))
      obtain ⟨b, off, sp⟩ := a
      simp only at hsp
      subst hsp
      have cell : ∀ k, k < 8 → W.cell? ⟨b, off + i * 8 + k, none⟩ = ([.int .u8 nd.kd, .int .i64 nd.vl, .int .i64 nd.ft, .float .f64 nd.th, .slice ca nd.cs.length cp, .int .u8 nd.ms, .int .i64 nd.lf, .int .i64 nd.rt] : List Value)[k]? := by
        intro k hk
        rw [← hcell k hk, Go.WideShapes.add_plain, Go.WideShapes.add_plain]
      exact ⟨⟨nd, ca, cp⟩, ⟨cell 0 (by omega), cell 1 (by omega), cell 2 (by omega), cell 3 (by omega), cell 4 (by omega), cell 5 (by omega), cell 6 (by omega), cell 7 (by omega), r1, r2, r3, r4⟩, rfl⟩
    haveI : Inhabited (Nd × Option Addr × Nat) := ⟨(nd0, none, 0)⟩
    obtain ⟨q, hq⟩ := Go.Deep.choose_lt each
    refine ⟨some a, m, (List.range len).map (fun i => (q i).1), by simp, by simpa using hl, ?_, by simp; omega, by omega⟩
    intro j hj
    simp only [List.length_map, List.length_range] at hj
    obtain ⟨h1, h2⟩ := hq j hj
    obtain ⟨b, off, sp⟩ := a
    simp only at h2
    subst h2
    refine ⟨b, off, (q j).2.1, (q j).2.2, rfl, ?_⟩
    have : ((List.range len).map (fun i => (q i).1)).getD j nd0 = (q j).1 := by simp [List.getD, hj]
    rw [this]
    exact h1
end
end Go.Proofs.Ytaogjiffnebnkaa
set_option linter.unusedVariables false
set_option linter.unusedSimpArgs false
namespace Go.Proofs.Ytaogjiffnebnkaa
open Go.ChangeShapes Go.WideShapes Go.ChangeAt Go.RowKit
section
variable {H : Type} {enc : TypeId × Value → H} {W : World}
end
end Go.Proofs.Ytaogjiffnebnkaa
set_option linter.unusedVariables false
set_option linter.unusedSimpArgs false
namespace Go.Proofs.Ytaogjiffnebnkaa
open Go.ChangeShapes Go.WideShapes Go.ChangeAt Go.RowKit
theorem bytes24' : Try.prog.bytesOf 54 = 32 := by kernel_rfl
section
variable {H : Type} {enc : TypeId × Value → H} {W : World}
/-- How many nodes a row may have: 80 bytes each. -/
theorem nodes_len {fuel : Nat} {v : Value} {y : DataW H × List MemPlace} {a : Option Addr} {n cap : Nat} (hf : DataW.trod enc Try.prog W 0 (fun _ => true) true fuel 52 [v] = some y) (hz : Sz 52 y.1) (hv : v = .slice a n cap) : n ≤ 1759218604441 := by
  rcases Go.Deep.open_slice Try.underlying52 hf with ⟨hcs, _⟩ | ⟨a, len, cap, m, k, D, Pl, hcs, hb, hl, hm, hmm, rfl, hx⟩
  · simp at hcs
    subst hcs
    simp only [Value.slice.injEq] at hv
    omega
  · simp at hcs
    subst hcs
    simp only [if_true] at hmm
    subst hmm
    obtain ⟨hs, hd⟩ := hz.slice Try.underlying52
    rw [bytes40] at hs
    simp only [reachBytes, List.length_map, List.length_range] at hs
    simp only [Value.slice.injEq] at hv
    omega
set_option maxRecDepth 100000 in
/-- A tree's cells, opened. -/
theorem open_tree2 {fuel : Nat} {cs : List Value} {y : DataW H × List MemPlace} (hf : DataW.trod enc Try.prog W 0 (fun _ => true) true fuel 54 cs = some y) (hz : Sz 54 y.1) :
    ∃ (o : Int) (a : Option Addr) (cap : Nat) (L : List Nd), cs = [.int .i64 o, .slice a L.length cap] ∧ L.length ≤ cap ∧ RdN W a L ∧ L.length ≤ 1759218604441 ∧ (-9223372036854775808 ≤ o ∧ o ≤ 9223372036854775807) := by
  obtain ⟨xs, m, -, rfl, hcs, hxs, hfld⟩ := DataW.trod_struct Try.underlying54 hf
  rw [cells24] at hcs
  match cs, hcs with
  | [c0, c1], _ =>
    match xs, hxs with
    | [y0, y1], _ =>
      have t0 : DataW.trod enc Try.prog W 0 (fun _ => true) true m 3 [c0] = some y0 := by have h := hfld 0 _ rfl; simpa [cells3] using h
      have t1 : DataW.trod enc Try.prog W 0 (fun _ => true) true m 52 [c1] = some y1 := by have h := hfld 1 _ rfl; simpa [cells22] using h
      have z1 : Sz 52 y1.1 := hz.agg Try.underlying54 (i := 1) rfl rfl
      obtain ⟨n0, e0, -, w0⟩ := DataW.trod_int Try.underlying3 t0
      obtain ⟨a, cap, L, e1, h1, r1, l1, -⟩ := open_nodes t1 z1
      have l2 := nodes_len t1 z1 e1
      have e0 : c0 = .int .i64 n0 := by simpa using e0
      subst e0 e1
      exact ⟨n0, a, cap, L, rfl, h1, r1, l2, bounds_i64 w0⟩
/-- Trees in a cell, opened. -/
theorem open_trees {fuel : Nat} {v : Value} {y : DataW H × List MemPlace} (hf : DataW.trod enc Try.prog W 0 (fun _ => true) true fuel 22 [v] = some y) (hz : Sz 22 y.1) :
    ∃ a cap ts, v = .slice a (ts : List (Int × List Nd)).length cap ∧ ts.length ≤ cap ∧ RdT W a ts ∧ ts.length ≤ 4398046511104 ∧ (∀ j, j < ts.length → (ts.getD j (0, [])).2.length ≤ 1759218604441) := by
  rcases Go.Deep.open_slice Try.underlying22 hf with ⟨hcs, _⟩ | ⟨a, len, cap, m, n, D, Pl, hcs, hb, hl, hm, hmm, rfl, hx⟩
  · simp at hcs
    subst hcs
    exact ⟨none, 0, [], rfl, Nat.le_refl _, by intro j hj; simp at hj, by simp, by intro j hj; simp at hj⟩
  · simp at hcs
    subst hcs
    simp only [if_true] at hmm
    subst hmm
    obtain ⟨hs, hd⟩ := hz.slice Try.underlying22
    rw [bytes24'] at hs
    simp only [reachBytes, List.length_map, List.length_range] at hs
    rw [cells24] at hx
    have each : ∀ i, i < len → ∃ q : (Int × List Nd) × Option Addr × Nat, a.spot = none ∧ W.cell? ⟨a.block, a.off + i * 2, none⟩ = some (.int .i64 q.1.1) ∧ W.cell? ⟨a.block, a.off + i * 2 + 1, none⟩ = some (.slice q.2.1 q.1.2.length q.2.2) ∧ RdN W q.2.1 q.1.2 ∧ q.1.2.length ≤ q.2.2 ∧ q.1.2.length ≤ 1759218604441 ∧ (-9223372036854775808 ≤ q.1.1 ∧ q.1.1 ≤ 9223372036854775807) := by
      intro i hi
      obtain ⟨cs', h1, h2⟩ := hx i (by omega)
      obtain ⟨cs0, h10, h20⟩ := hx 0 (by omega)
      obtain ⟨-, -, hcell0⟩ := World.cells?_some h10
      obtain ⟨o0', a0', cp0', L0', rfl, -⟩ := open_tree2 h20 (hd _ (List.mem_map.2 ⟨0, List.mem_range.2 (by omega), rfl⟩))
      have hsp : a.spot = none := by
        have := hcell0 0 (by omega)
        simpa [Addr.add] using World.cell?_spot this
      obtain ⟨-, hlen, hcell⟩ := World.cells?_some h1
      obtain ⟨ot, na, cp, L, rfl, r1, r2, r3, r4⟩ := open_tree2 h2 (hd _ (List.mem_map.2 ⟨i, List.mem_range.2 hi, rfl⟩))
      obtain ⟨b, off, sp⟩ := a
      simp only at hsp
      subst hsp
      have cell : ∀ k, k < 2 → W.cell? ⟨b, off + i * 2 + k, none⟩ = ([.int .i64 ot, .slice na L.length cp] : List Value)[k]? := by
        intro k hk
        rw [← hcell k hk, Go.WideShapes.add_plain, Go.WideShapes.add_plain]
      exact ⟨⟨(ot, L), na, cp⟩, rfl, cell 0 (by omega), cell 1 (by omega), r2, r1, r3, r4⟩
    haveI : Inhabited ((Int × List Nd) × Option Addr × Nat) := ⟨((0, []), none, 0)⟩
    obtain ⟨q, hq⟩ := Go.Deep.choose_lt each
    have hg : ∀ j, j < len → ((List.range len).map (fun i => (q i).1)).getD j (0, []) = (q j).1 := by intro j hj; simp [List.getD, hj]
    refine ⟨some a, m, (List.range len).map (fun i => (q i).1), by simp, by simpa using hl, ?_, by simp; omega, ?_⟩
    · intro j hj
      simp only [List.length_map, List.length_range] at hj
      obtain ⟨h1, h2, h3, h4, h5, h6, h7⟩ := hq j hj
      obtain ⟨b, off, sp⟩ := a
      simp only at h1
      subst h1
      rw [hg j hj]
      exact ⟨b, off, (q j).2.1, (q j).2.2, rfl, h2, h3, h4, h5, by omega, h7⟩
    · intro j hj
      simp only [List.length_map, List.length_range] at hj
      rw [hg j hj]
      exact (hq j hj).2.2.2.2.2.1
set_option maxRecDepth 100000 in
/-- An argument that is a row of trees. -/
theorem arg_trees {base : Nat} {v : Value} {d : DataW H} {p : List MemPlace} (hv : Value.okWide Try.prog W .any base 22 v) (h : DataW.Trod enc Try.prog W 0 (fun _ => true) true 22 v d p) (hz : Sz 22 d) :
    ∃ a cap ts, v = .slice a (ts : List (Int × List Nd)).length cap ∧ ts.length ≤ cap ∧ RdT W a ts ∧ ts.length ≤ 4398046511104 ∧ (∀ j, j < ts.length → (ts.getD j (0, [])).2.length ≤ 1759218604441) := by
  obtain ⟨a, len, cap, rfl⟩ := okWide_slice Try.underlying22 hv
  obtain ⟨fuel, hf⟩ := h
  exact open_trees hf hz
end
end Go.Proofs.Ytaogjiffnebnkaa

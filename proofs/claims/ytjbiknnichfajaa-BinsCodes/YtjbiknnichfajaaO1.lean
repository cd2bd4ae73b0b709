import Derived.Test.YtjbiknnichfajaaS17
import Derived.Test.YtjbiknnichfajaaRows
import Derived.Test.YtjbiknnichfajaaChecked
import Derived.ProofKit
import Derived.OpenShut
import Derived.SizedLaws
import Derived.Deep.DeepHandedRow
import Derived.Lib.LaidTab
import Derived.Deep.Slices
import Derived.Laws.Cover2
set_option linter.unusedVariables false
set_option linter.unusedSimpArgs false
namespace Go.Proofs.Ytjbiknnichfajaa
open Go.ChangeShapes Go.WideShapes Go.ChangeAt Go.RowKit
theorem own : ownKnob Try.prog.godebug = none := by kernel_rfl
theorem laidOut : laidOutB Try.prog = true := by kernel_rfl
theorem co3 : Try.prog.cellsOf 3 = 1 := by kernel_rfl
theorem co4 : Try.prog.cellsOf 4 = 1 := by kernel_rfl
theorem co22 : Try.prog.cellsOf 22 = 1 := by kernel_rfl
theorem co23 : Try.prog.cellsOf 23 = 1 := by kernel_rfl
theorem co25 : Try.prog.cellsOf 25 = 2 := by kernel_rfl
theorem co26 : Try.prog.cellsOf 26 = 1 := by kernel_rfl
theorem co28 : Try.prog.cellsOf 28 = 3 := by kernel_rfl
theorem co33 : Try.prog.cellsOf 33 = 1 := by kernel_rfl
theorem co44 : Try.prog.cellsOf 44 = 1 := by kernel_rfl
theorem by3 : Try.prog.bytesOf 3 = 8 := by kernel_rfl
theorem by26 : Try.prog.bytesOf 26 = 24 := by kernel_rfl
theorem by33 : Try.prog.bytesOf 33 = 8 := by kernel_rfl
theorem by44 : Try.prog.bytesOf 44 = 24 := by kernel_rfl
/-- All that is in a datum is of a size that fits. -/
def Sz {H : Type} (t : TypeId) (d : DataW H) : Prop := ∀ n ∈ d.weights Try.prog t, n ≤ reachBytes
theorem weightsAll_mem {H : Type} {e : TypeId} : ∀ {l : List (DataW H)} {d : DataW H} {n : Nat}, d ∈ l → n ∈ d.weights Try.prog e → n ∈ DataW.weightsAll Try.prog e l
  | [], d, n, h, _ => by simp at h
  | x :: l, d, n, h, hn => by
    rw [DataW.weightsAll, List.mem_append]
    rcases List.mem_cons.1 h with rfl | h
    · exact .inl hn
    · exact .inr (weightsAll_mem h hn)
theorem Sz.slice {H : Type} {t e : TypeId} {el sp : List (DataW H)} (h : Sz t (.slice el sp)) (ht : Try.prog.underlying t = some (.slice e)) : (el.length + sp.length) * Try.prog.bytesOf e ≤ reachBytes ∧ ∀ d ∈ el, Sz e d := by
  have hw : (DataW.slice el sp).weights Try.prog t = (el.length + sp.length) * Try.prog.bytesOf e :: (DataW.weightsAll Try.prog e el ++ DataW.weightsAll Try.prog e sp) := by
    simp [DataW.weights, ht]
  refine ⟨h _ (by rw [hw]; simp), fun d hd n hn => h n ?_⟩
  rw [hw]
  exact List.mem_cons_of_mem _ (List.mem_append_left _ (weightsAll_mem hd hn))
theorem Sz.agg {H : Type} {t : TypeId} {fs : Array Field} {ds : List (DataW H)} (h : Sz t (.agg ds)) (ht : Try.prog.underlying t = some (.struct fs)) {i : Nat} {f : Field} {d : DataW H} (hf : fs[i]? = some f) (hd : ds[i]? = some d) : Sz f.type d := by
  intro n hn
  refine h n ?_
  have hw : (DataW.agg ds).weights Try.prog t = DataW.weightsEach Try.prog (fs.toList.map (·.type)) ds := by
    simp [DataW.weights, ht]
  rw [hw]
  refine DataW.weights_mem_each (j := i) (t := f.type) ?_ hd n hn
  simp [hf]
theorem Sz.arg {H : Type} {ts : List TypeId} {ds : List (DataW H)} (hsz : (DataW.weightsEach Try.prog ts ds).all (· ≤ reachBytes) = true) {j : Nat} {t : TypeId} {d : DataW H} (ht : ts[j]? = some t) (hd : ds[j]? = some d) : Sz t d := by
  intro n hn
  have := List.all_eq_true.1 hsz n (DataW.weights_mem_each ht hd n hn)
  simpa using this
section
variable {H : Type} {enc : TypeId × Value → H} {W : World}
/-- A list of whole numbers in a cell, opened. -/
theorem open_ints_c {S E : TypeId} (hS : Try.prog.underlying S = some (.slice E)) (hE : Try.prog.underlying E = some (.int .i64)) (hc : Try.prog.cellsOf E = 1) (hb : Try.prog.bytesOf E = 8) {fuel : Nat} {v : Value} {y : DataW H × List MemPlace} (hf : DataW.trod enc Try.prog W 0 (fun _ => true) true fuel S [v] = some y) (hz : Sz S y.1) :
    ∃ a c l, v = .slice a l.length c ∧ l.length ≤ c ∧ RdI W a l ∧ (∀ x ∈ l, -9223372036854775808 ≤ x ∧ x ≤ 9223372036854775807) ∧ c ≤ 17592186044416 := by
  rcases open_ints hS hE hc hf with ⟨hcs, _⟩ | ⟨x, len, cap, zs, hcs, _, hl, hm, hzs, hx, hcell, hwz⟩
  · simp at hcs
    subst hcs
    exact ⟨none, 0, [], rfl, Nat.le_refl _, RdI.nil _ _, by intro x hx; simp at hx, by omega⟩
  · simp at hcs
    subst hcs
    subst hx
    simp only [if_true] at hzs
    have hlen : (zs.take len).length = len := by simp; omega
    have hsz := (hz.slice hS).1
    rw [hb] at hsz
    simp only [reachBytes, lits, List.length_map, List.length_take, List.length_drop] at hsz
    refine ⟨some x, cap, zs.take len, by rw [hlen], by omega, ?_, ?_, by omega⟩
    · intro j hj
      rw [hlen] at hj
      obtain ⟨b, off, rfl, hc⟩ := ints_at hcell (by omega)
      refine ⟨b, off, rfl, ?_⟩
      rw [hc j (by omega)]
      have e : (zs.take len).getD j 0 = zs.getD j 0 := by simp [List.getD, hj]
      rw [e]
    · intro y hy
      exact bounds_i64 (hwz y (List.mem_of_mem_take hy))
theorem trod_float {t : TypeId} {k : FloatKind} {fuel : Nat} {cs : List Value} {x : DataW H × List MemPlace} (ht : Try.prog.underlying t = some (.float k)) (h : DataW.trod enc Try.prog W 0 (fun _ => true) true fuel t cs = some x) : ∃ b, cs = [.float k b] ∧ (Lit.float k b).wf = true := by
  cases fuel with
  | zero => simp [DataW.trod] at h
  | succ n =>
    unfold DataW.trod at h
    rw [ht] at h
    split at h
    all_goals simp_all
theorem bounds_f64 {b : Nat} (h : (Lit.float .f64 b).wf = true) : b < 18446744073709551616 := by
  simp only [Lit.wf, decide_eq_true_eq] at h
  have : (2 : Nat) ^ 64 = 18446744073709551616 := by decide
  omega
/-- Numbers in a cell, opened. -/
theorem open_floats {fuel : Nat} {v : Value} {y : DataW H × List MemPlace} (hf : DataW.trod enc Try.prog W 0 (fun _ => true) true fuel 26 [v] = some y) (hz : Sz 26 y.1) :
    ∃ a cap l, v = .slice a (l : List Nat).length cap ∧ l.length ≤ cap ∧ RdF W a l ∧ l.length ≤ 17592186044416 ∧ W64 l := by
  rcases Go.Deep.open_slice Try.underlying26 hf with ⟨hcs, _⟩ | ⟨a, len, cap, m, n, D, Pl, hcs, hb, hl, hm, hmm, rfl, hx⟩
  · simp at hcs
    subst hcs
    exact ⟨none, 0, [], rfl, Nat.le_refl _, by intro j hj; simp at hj, by simp, by intro j hj; simp at hj⟩
  · simp at hcs
    subst hcs
    simp only [if_true] at hmm
    subst hmm
    obtain ⟨hs, hd⟩ := hz.slice Try.underlying26
    rw [by33] at hs
    simp only [reachBytes, List.length_map, List.length_range] at hs
    rw [co33] at hx
    have each : ∀ i, i < len → ∃ q : Nat, W.cell? ⟨a.block, a.off + i, none⟩ = some (.float .f64 q) ∧ a.spot = none ∧ q < 18446744073709551616 := by
      intro i hi
      obtain ⟨cs', h1, h2⟩ := hx i (by omega)
      obtain ⟨cs0, h10, h20⟩ := hx 0 (by omega)
      obtain ⟨-, -, hcell0⟩ := World.cells?_some h10
      obtain ⟨b0, rfl, -⟩ := trod_float Try.underlying33 h20
      have hsp : a.spot = none := by
        have := hcell0 0 (by omega)
        simpa [Addr.add] using World.cell?_spot this
      obtain ⟨-, hlen, hcell⟩ := World.cells?_some h1
      obtain ⟨b1, rfl, hwf⟩ := trod_float Try.underlying33 h2
      obtain ⟨b, off, sp⟩ := a
      simp only at hsp
      subst hsp
      have := hcell 0 (by omega)
      rw [Go.WideShapes.add_plain, Go.WideShapes.add_plain] at this
      exact ⟨b1, by simpa using this, rfl, bounds_f64 hwf⟩
    obtain ⟨q, hq⟩ := Go.Deep.choose_lt each
    refine ⟨some a, m, (List.range len).map q, by simp, by simpa using hl, ?_, by simp; omega, ?_⟩
    rotate_left
    · intro j hj
      simp only [List.length_map, List.length_range] at hj
      have : ((List.range len).map q).getD j 0 = q j := by simp [List.getD, hj]
      rw [this]; exact (hq j hj).2.2
    intro j hj
    simp only [List.length_map, List.length_range] at hj
    obtain ⟨h1, h2, -⟩ := hq j hj
    obtain ⟨b, off, sp⟩ := a
    simp only at h2
    subst h2
    refine ⟨b, off, rfl, ?_⟩
    have : ((List.range len).map q).getD j 0 = q j := by simp [List.getD, hj]
    rw [this]
    exact h1
/-- Rows of rows in a cell, opened. -/
theorem open_rows {α : Type} {S E : Nat} (P : Option Addr → List α → Prop) (hS : Try.prog.underlying S = some (.slice E)) (hE : Try.prog.cellsOf E = 1) (hbE : Try.prog.bytesOf E = 24)
    (hin : ∀ {fuel : Nat} {v : Value} {y : DataW H × List MemPlace}, DataW.trod enc Try.prog W 0 (fun _ => true) true fuel E [v] = some y → Sz E y.1 → ∃ a cap l, v = .slice a (l : List α).length cap ∧ P a l)
    {fuel : Nat} {v : Value} {y : DataW H × List MemPlace} (hf : DataW.trod enc Try.prog W 0 (fun _ => true) true fuel S [v] = some y) (hz : Sz S y.1) :
    ∃ a cap V, v = .slice a (V : List (List α)).length cap ∧ V.length ≤ 5864062014805 ∧ ∀ j, j < V.length → ∃ b o va vc, a = some ⟨b, o, none⟩ ∧ W.cell? ⟨b, o + j, none⟩ = some (.slice va (V.getD j []).length vc) ∧ P va (V.getD j []) := by
  rcases Go.Deep.open_slice hS hf with ⟨hcs, _⟩ | ⟨a, len, cap, m, n, D, Pl, hcs, hb, hl, hm, hmm, rfl, hx⟩
  · simp at hcs
    subst hcs
    exact ⟨none, 0, [], rfl, by simp, by intro j hj; simp at hj⟩
  · simp at hcs
    subst hcs
    simp only [if_true] at hmm
    subst hmm
    obtain ⟨hs, hd⟩ := hz.slice hS
    rw [hbE] at hs
    simp only [reachBytes, List.length_map, List.length_range] at hs
    rw [hE] at hx
    have each : ∀ i, i < len → ∃ q : List α, (∃ va vc, W.cell? ⟨a.block, a.off + i, none⟩ = some (.slice va q.length vc) ∧ P va q) ∧ a.spot = none := by
      intro i hi
      have one : ∀ k, k < len → ∃ v, W.cell? (a.add (k * 1)) = some v ∧ ∃ va vc l, v = .slice va (l : List α).length vc ∧ P va l := by
        intro k hk
        obtain ⟨cs', h1, h2⟩ := hx k (by omega)
        obtain ⟨-, hlen, hcell⟩ := World.cells?_some h1
        match cs', hlen with
        | [u], _ =>
          obtain ⟨va, vc, l, rfl, r⟩ := hin h2 (hd _ (List.mem_map.2 ⟨k, List.mem_range.2 hk, rfl⟩))
          have := hcell 0 (by omega)
          refine ⟨.slice va l.length vc, ?_, va, vc, l, rfl, r⟩
          rw [Go.Deep.add_add] at this
          simpa using this
      obtain ⟨v0, h0, -⟩ := one 0 (by omega)
      have hsp : a.spot = none := by
        simpa [Addr.add] using World.cell?_spot h0
      obtain ⟨v1, h1, va, vc, l, rfl, r1⟩ := one i hi
      obtain ⟨b, off, sp⟩ := a
      simp only at hsp
      subst hsp
      rw [Go.WideShapes.add_plain, Nat.mul_one] at h1
      exact ⟨l, ⟨va, vc, h1, r1⟩, rfl⟩
    obtain ⟨q, hq⟩ := Go.Deep.choose_lt each
    refine ⟨some a, m, (List.range len).map q, by simp, by simp; omega, ?_⟩
    intro j hj
    simp only [List.length_map, List.length_range] at hj
    obtain ⟨⟨va, vc, h1, r⟩, h2⟩ := hq j hj
    obtain ⟨b, off, sp⟩ := a
    simp only at h2
    subst h2
    have e : ((List.range len).map q).getD j [] = q j := by simp [List.getD, hj]
    rw [e]
    exact ⟨b, off, va, vc, rfl, h1, r⟩
set_option maxRecDepth 100000 in
theorem arg_floats {base : Nat} {v : Value} {d : DataW H} {p : List MemPlace} (hv : Value.okWide Try.prog W .any base 26 v) (h : DataW.Trod enc Try.prog W 0 (fun _ => true) true 26 v d p) (hz : Sz 26 d) :
    ∃ a c l, v = .slice a (l : List Nat).length c ∧ l.length ≤ c ∧ RdF W a l ∧ l.length ≤ 17592186044416 ∧ W64 l := by
  obtain ⟨a, len, cap, rfl⟩ := okWide_slice Try.underlying26 hv
  obtain ⟨fuel, hf⟩ := h
  exact open_floats hf hz
set_option maxRecDepth 100000 in
/-- An argument that is bins. -/
theorem arg_bins {base : Nat} {v : Value} {d : DataW H} {p : List MemPlace} (hv : Value.okWide Try.prog W .any base 25 v) (h : DataW.Trod enc Try.prog W 0 (fun _ => true) true 25 v d p) (hz : Sz 25 d) :
    ∃ (a : Option Addr) (c : Nat) (a2 : Option Addr) (c2 : Nat) (V : List (List Nat)) (T : List (List Int)), v = BV a V.length c a2 T.length c2 ∧ Bn W a a2 V T := by
  obtain ⟨cs, rfl, -⟩ := okWide_struct Try.underlying25 hv
  obtain ⟨fuel, hf⟩ := h
  obtain ⟨xs, m, -, he, hcs, hxs, hfld⟩ := DataW.trod_struct Try.underlying25 hf
  simp only [Prod.mk.injEq] at he
  obtain ⟨rfl, rfl⟩ := he
  rw [co25] at hcs
  simp only [Value.cells] at hcs hfld
  obtain ⟨c0, c1, hcc⟩ : ∃ c0 c1, cs.toList = [c0, c1] := by
    match hl : cs.toList, hcs with
    | [c0, c1], _ => exact ⟨c0, c1, rfl⟩
  match xs, hxs with
  | [y0, y1], _ =>
    rw [hcc] at hfld
    have t0 : DataW.trod enc Try.prog W 0 (fun _ => true) true m 22 [c0] = some y0 := by have h := hfld 0 _ rfl; simpa [co22] using h
    have t1 : DataW.trod enc Try.prog W 0 (fun _ => true) true m 23 [c1] = some y1 := by have h := hfld 1 _ rfl; simpa [co23] using h
    have z0 : Sz 22 y0.1 := hz.agg Try.underlying25 (i := 0) rfl rfl
    have z1 : Sz 23 y1.1 := hz.agg Try.underlying25 (i := 1) rfl rfl
    obtain ⟨a, cap, V, e0, l0, r0⟩ := open_rows (fun va l => RdF W va l ∧ l.length ≤ 17592186044416 ∧ W64 l) Try.underlying22 co26 by26 (fun h hb => by obtain ⟨a, cap, l, e, -, r⟩ := open_floats h hb; exact ⟨a, cap, l, e, r⟩) t0 z0
    obtain ⟨a2, cap2, T, e1, l1, r1⟩ := open_rows (fun va l => RdI W va l ∧ l.length ≤ 17592186044416) Try.underlying23 co44 by44 (fun h hb => by obtain ⟨a, cap, l, e, h1, r, -, h2⟩ := open_ints_c Try.underlying44 Try.underlying3 co3 by3 h hb; exact ⟨a, cap, l, e, r, by omega⟩) t1 z1
    subst e0 e1
    refine ⟨a, cap, a2, cap2, V, T, ?_, ⟨r0, r1, l0, l1⟩⟩
    show Value.agg cs = Value.agg _
    congr 1
    rw [← Array.toList_inj, hcc]
set_option maxRecDepth 100000 in
/-- An argument that is a code. -/
theorem arg_code {base : Nat} {v : Value} {d : DataW H} {p : List MemPlace} (hv : Value.okWide Try.prog W .any base 28 v) (h : DataW.Trod enc Try.prog W 0 (fun _ => true) true 28 v d p) : ∃ k : Cd, v = CV k := by
  obtain ⟨cs, rfl, -⟩ := okWide_struct Try.underlying28 hv
  obtain ⟨fuel, hf⟩ := h
  obtain ⟨xs, m, -, he, hcs, hxs, hfld⟩ := DataW.trod_struct Try.underlying28 hf
  rw [co28] at hcs
  simp only [Value.cells] at hcs hfld
  obtain ⟨c0, c1, c2, hcc⟩ : ∃ c0 c1 c2, cs.toList = [c0, c1, c2] := by
    match hl : cs.toList, hcs with
    | [c0, c1, c2], _ => exact ⟨c0, c1, c2, rfl⟩
  match xs, hxs with
  | [y0, y1, y2], _ =>
    rw [hcc] at hfld
    have t0 : DataW.trod enc Try.prog W 0 (fun _ => true) true m 3 [c0] = some y0 := by have h := hfld 0 _ rfl; simpa [co3] using h
    have t1 : DataW.trod enc Try.prog W 0 (fun _ => true) true m 3 [c1] = some y1 := by have h := hfld 1 _ rfl; simpa [co3] using h
    have t2 : DataW.trod enc Try.prog W 0 (fun _ => true) true m 4 [c2] = some y2 := by have h := hfld 2 _ rfl; simpa [co4] using h
    obtain ⟨n0, e0, -, w0⟩ := DataW.trod_int Try.underlying3 t0
    obtain ⟨n1, e1, -, w1⟩ := DataW.trod_int Try.underlying3 t1
    obtain ⟨n2, e2, -⟩ := DataW.trod_bool Try.underlying4 t2
    have e0 : c0 = .int .i64 n0 := by simpa using e0
    have e1 : c1 = .int .i64 n1 := by simpa using e1
    have e2 : c2 = .bool n2 := by simpa using e2
    subst e0 e1 e2
    refine ⟨(n0, n1, n2), ?_⟩
    show Value.agg cs = Value.agg _
    congr 1
    rw [← Array.toList_inj, hcc]
end
end Go.Proofs.Ytjbiknnichfajaa

import Derived.Test.YtlfkdmddlnekiaaG9
import Derived.Test.YtlfkdmddlnekiaaRows
import Derived.Test.YtlfkdmddlnekiaaChecked
import Derived.ProofKit
import Derived.OpenShut
import Derived.SizedLaws
import Derived.Deep.DeepHandedRow
import Derived.Lib.LaidTab
import Derived.Deep.Slices
import Derived.Laws.Cover2
set_option linter.unusedVariables false
set_option linter.unusedSimpArgs false
namespace Go.Proofs.Ytlfkdmddlnekiaa
open Go.ChangeShapes Go.WideShapes Go.ChangeAt Go.RowKit
theorem own : ownKnob Try.prog.godebug = none := by kernel_rfl
theorem laidOut : laidOutB Try.prog = true := by kernel_rfl
theorem cells9 : Try.prog.cellsOf 9 = 1 := by kernel_rfl
theorem cells22 : Try.prog.cellsOf 22 = 1 := by kernel_rfl
theorem cells23 : Try.prog.cellsOf 23 = 1 := by kernel_rfl
theorem cells24 : Try.prog.cellsOf 24 = 1 := by kernel_rfl
theorem cells26 : Try.prog.cellsOf 26 = 4 := by kernel_rfl
theorem bytes9 : Try.prog.bytesOf 9 = 16 := by kernel_rfl
theorem bytes26 : Try.prog.bytesOf 26 = 72 := by kernel_rfl
/-- All that is in a datum is of a size that fits. -/
def Sz {H : Type} (t : TypeId) (d : DataW H) : Prop := ∀ n ∈ d.weights Try.prog t, n ≤ reachBytes
theorem weightsAll_mem {H : Type} {e : TypeId} : ∀ {l : List (DataW H)} {d : DataW H} {n : Nat}, d ∈ l → n ∈ d.weights Try.prog e → n ∈ DataW.weightsAll Try.prog e l
  | [], d, n, h, _ => by simp at h
  | x :: l, d, n, h, hn => by
    rw [DataW.weightsAll, List.mem_append]
    rcases List.mem_cons.1 h with rfl | h
    · exact .inl hn
    · exact .inr (weightsAll_mem h hn)
theorem Sz.slice {H : Type} {t e : TypeId} {el sp : List (DataW H)} (h : Sz t (.slice el sp)) (ht : Try.prog.underlying t = some (.slice e)) : (el.length + sp.length) * Try.prog.bytesOf e ≤ reachBytes ∧ ∀ d ∈ el, Sz e d := by
  have hw : (DataW.slice el sp).weights Try.prog t = (el.length + sp.length) * Try.prog.bytesOf e :: (DataW.weightsAll Try.prog e el ++ DataW.weightsAll Try.prog e sp) := by
    simp [DataW.weights, ht]
  refine ⟨h _ (by rw [hw]; simp), fun d hd n hn => h n ?_⟩
  rw [hw]
  exact List.mem_cons_of_mem _ (List.mem_append_left _ (weightsAll_mem hd hn))
theorem Sz.agg {H : Type} {t : TypeId} {fs : Array Field} {ds : List (DataW H)} (h : Sz t (.agg ds)) (ht : Try.prog.underlying t = some (.struct fs)) {i : Nat} {f : Field} {d : DataW H} (hf : fs[i]? = some f) (hd : ds[i]? = some d) : Sz f.type d := by
  intro n hn
  refine h n ?_
  have hw : (DataW.agg ds).weights Try.prog t = DataW.weightsEach Try.prog (fs.toList.map (·.type)) ds := by
    simp [DataW.weights, ht]
  rw [hw]
  refine DataW.weights_mem_each (j := i) (t := f.type) ?_ hd n hn
  simp [hf]
theorem Sz.arg {H : Type} {ts : List TypeId} {ds : List (DataW H)} (hsz : (DataW.weightsEach Try.prog ts ds).all (· ≤ reachBytes) = true) {j : Nat} {t : TypeId} {d : DataW H} (ht : ts[j]? = some t) (hd : ds[j]? = some d) : Sz t d := by
  intro n hn
  have := List.all_eq_true.1 hsz n (DataW.weights_mem_each ht hd n hn)
  simpa using this
theorem bounds_u8 {n : Int} (h : (Lit.int .u8 n).wf = true) : 0 ≤ n ∧ n < 256 := by
  simp only [Lit.wf, IntKind.min, IntKind.max, IntKind.signed, IntKind.bits, Bool.and_eq_true, decide_eq_true_eq] at h
  simp at h
  omega
section
variable {H : Type} {enc : TypeId × Value → H} {W : World}
theorem Sz.text {t : TypeId} {s : ByteArray} (h : Sz t (DataW.lit (H := H) (.string s.data.toList))) : s.size ≤ 281474976710656 := by
  have h1 := h s.size (by simp [DataW.weights])
  simp only [reachBytes] at h1
  omega
/-- Texts in a cell, opened, and their sizes. -/
theorem open_texts {fuel : Nat} {v : Value} {y : DataW H × List MemPlace} (hf : DataW.trod enc Try.prog W 0 (fun _ => true) true fuel 23 [v] = some y) (hz : Sz 23 y.1) :
    ∃ a cap l, v = .slice a (l : List ByteArray).length cap ∧ RdS W a l ∧ l.length ≤ 8796093022208 ∧ ∀ j, j < l.length → (l.getD j ByteArray.empty).size ≤ 281474976710656 := by
  rcases Go.Deep.open_slice Try.underlying23 hf with ⟨hcs, _⟩ | ⟨a, len, cap, m, n, D, Pl, hcs, hb, hl, hm, hmm, rfl, hx⟩
  · simp at hcs
    subst hcs
    exact ⟨none, 0, [], rfl, by intro j hj; simp at hj, by simp, by intro j hj; simp at hj⟩
  · simp at hcs
    subst hcs
    simp only [if_true] at hmm
    subst hmm
    obtain ⟨hs, hd⟩ := hz.slice Try.underlying23
    rw [bytes9] at hs
    simp only [reachBytes, List.length_map, List.length_range] at hs
    rw [cells9] at hx
    have each : ∀ i, i < len → ∃ q : ByteArray, W.cell? ⟨a.block, a.off + i, none⟩ = some (.string q) ∧ a.spot = none ∧ q.size ≤ 281474976710656 := by
      intro i hi
      obtain ⟨cs', h1, h2⟩ := hx i (by omega)
      obtain ⟨cs0, h10, h20⟩ := hx 0 (by omega)
      obtain ⟨-, -, hcell0⟩ := World.cells?_some h10
      obtain ⟨b0, rfl, -⟩ := DataW.trod_string Try.underlying9 h20
      have hsp : a.spot = none := by
        have := hcell0 0 (by omega)
        simpa [Addr.add] using World.cell?_spot this
      obtain ⟨-, hlen, hcell⟩ := World.cells?_some h1
      obtain ⟨b1, rfl, hb1, -⟩ := DataW.trod_string Try.underlying9 h2
      have hzz : b1.size ≤ 281474976710656 := by
        have h3 := hd (D i) (List.mem_map.2 ⟨i, List.mem_range.2 (by omega), rfl⟩)
        rw [Prod.mk.injEq] at hb1
        rw [hb1.1] at h3
        exact h3.text
      obtain ⟨b, off, sp⟩ := a
      simp only at hsp
      subst hsp
      have := hcell 0 (by omega)
      rw [Go.WideShapes.add_plain, Go.WideShapes.add_plain] at this
      exact ⟨b1, by simpa using this, rfl, hzz⟩
    haveI : Inhabited ByteArray := ⟨ByteArray.empty⟩
    obtain ⟨q, hq⟩ := Go.Deep.choose_lt each
    refine ⟨some a, m, (List.range len).map q, by simp, ?_, by simp; omega, fun j hj => ?_⟩
    rotate_left
    · simp only [List.length_map, List.length_range] at hj
      have : ((List.range len).map q).getD j ByteArray.empty = q j := by simp [List.getD, hj]
      rw [this]
      exact (hq j hj).2.2
    intro j hj
    simp only [List.length_map, List.length_range] at hj
    obtain ⟨h1, h2, -⟩ := hq j hj
    obtain ⟨b, off, sp⟩ := a
    simp only at h2
    subst h2
    refine ⟨b, off, rfl, ?_⟩
    have : ((List.range len).map q).getD j ByteArray.empty = q j := by simp [List.getD, hj]
    rw [this]
    exact h1
set_option maxRecDepth 100000 in
/-- A Json value's cells, opened in all their depth. -/
theorem open_json : ∀ (N : Nat) {fuel : Nat} {cs : List Value} {y : DataW H × List MemPlace}, SizeOf.sizeOf y.1 ≤ N → DataW.trod enc Try.prog W 0 (fun _ => true) true fuel 26 cs = some y → Sz 26 y.1 →
    ∃ (j : J) (c0 c1 c2 c3 : Value), cs = [c0, c1, c2, c3] ∧ RdV W (.agg #[c0, c1, c2, c3]) j ∧ Fit j := by
  intro N
  induction N with
  | zero =>
    intro fuel cs y hN hf hz
    obtain ⟨xs, m, -, rfl, -⟩ := DataW.trod_struct Try.underlying26 hf
    simp at hN
  | succ N ih =>
    intro fuel cs y hN hf hz
    obtain ⟨xs, m, -, rfl, hcs, hxs, hfld⟩ := DataW.trod_struct Try.underlying26 hf
    rw [cells26] at hcs
    match cs, hcs with
    | [c0, c1, c2, c3], _ =>
      match xs, hxs with
      | [y0, y1, y2, y3], _ =>
        have t0 : DataW.trod enc Try.prog W 0 (fun _ => true) true m 22 [c0] = some y0 := by have h := hfld 0 _ rfl; simpa [cells22] using h
        have t1 : DataW.trod enc Try.prog W 0 (fun _ => true) true m 9 [c1] = some y1 := by have h := hfld 1 _ rfl; simpa [cells22, cells9] using h
        have t2 : DataW.trod enc Try.prog W 0 (fun _ => true) true m 23 [c2] = some y2 := by have h := hfld 2 _ rfl; simpa [cells22, cells9, cells23] using h
        have t3 : DataW.trod enc Try.prog W 0 (fun _ => true) true m 24 [c3] = some y3 := by have h := hfld 3 _ rfl; simpa [cells22, cells9, cells23, cells24] using h
        have z1 : Sz 9 y1.1 := hz.agg Try.underlying26 (i := 1) rfl rfl
        have z2 : Sz 23 y2.1 := hz.agg Try.underlying26 (i := 2) rfl rfl
        have z3 : Sz 24 y3.1 := hz.agg Try.underlying26 (i := 3) rfl rfl
        have hN3 : SizeOf.sizeOf y3.1 ≤ N := by
          simp only [List.map_cons, List.map_nil, DataW.agg.sizeOf_spec, List.cons.sizeOf_spec, List.nil.sizeOf_spec] at hN
          omega
        obtain ⟨k0, e0, -, w0⟩ := DataW.trod_int Try.underlying22 t0
        obtain ⟨s1, e1, hd1, -⟩ := DataW.trod_string Try.underlying9 t1
        obtain ⟨an, cn, ns, e2, hn, ln, hnz⟩ := open_texts t2 z2
        have hs1 : s1.size ≤ 281474976710656 := by rw [hd1] at z1; exact z1.text
        have e0 : c0 = .int .u8 k0 := by simpa using e0
        have e1 : c1 = .string s1 := by simpa using e1
        subst e0 e1 e2
        have hk0 := bounds_u8 w0
        obtain ⟨k, rfl⟩ : ∃ k : Nat, k0 = k := ⟨k0.toNat, by omega⟩
        have hk : k < 256 := by omega
        rcases Go.Deep.open_slice Try.underlying24 t3 with ⟨hc, _⟩ | ⟨a, len, cap, m', n, D, Pl, hc, hb, hl, hm, hmm, rfl, hx⟩
        · simp at hc
          subst hc
          refine ⟨.mk k s1 ns [], _, _, _, _, rfl, ?_, ?_⟩
          · exact RdV.mk k s1 ns [] an cn none 0 (fun _ => (.bool false, .bool false, .bool false, .bool false)) hk hn (by omega) (by simp) (fun i hi => by simp at hi) (fun i hi => by simp at hi)
          · exact Fit.mk k s1 ns [] hs1 ln hnz (by simp) (fun i hi => by simp at hi)
        · simp at hc
          subst hc
          simp only [if_true] at hmm
          subst hmm
          obtain ⟨hs, hd⟩ := z3.slice Try.underlying24
          rw [bytes26] at hs
          simp only [reachBytes, List.length_map, List.length_range] at hs
          rw [cells26] at hx
          have each : ∀ i, i < len → ∃ q : J × Value × Value × Value × Value, RdV W (.agg #[q.2.1, q.2.2.1, q.2.2.2.1, q.2.2.2.2]) q.1 ∧ Fit q.1 ∧ a.spot = none ∧ W.cell? ⟨a.block, a.off + i * 4, none⟩ = some q.2.1 ∧ W.cell? ⟨a.block, a.off + i * 4 + 1, none⟩ = some q.2.2.1 ∧ W.cell? ⟨a.block, a.off + i * 4 + 2, none⟩ = some q.2.2.2.1 ∧ W.cell? ⟨a.block, a.off + i * 4 + 3, none⟩ = some q.2.2.2.2 := by
            intro i hi
            obtain ⟨cs', h1, h2⟩ := hx i (by omega)
            obtain ⟨-, hlen, hcell⟩ := World.cells?_some h1
            have hmem : D i ∈ (List.range len).map D := List.mem_map.2 ⟨i, List.mem_range.2 (by omega), rfl⟩
            have hNi : SizeOf.sizeOf (D i) ≤ N := by
              have h3 := List.sizeOf_lt_of_mem hmem
              simp only [DataW.slice.sizeOf_spec] at hN3
              omega
            obtain ⟨j, q0, q1, q2, q3, rfl, hr, hF⟩ := ih (y := (D i, Pl i)) hNi h2 (hd _ hmem)
            have hc0 := hcell 0 (by omega)
            have hc1 := hcell 1 (by omega)
            have hc2 := hcell 2 (by omega)
            have hc3 := hcell 3 (by omega)
            have hsp : a.spot = none := by
              obtain ⟨cs0, h10, h20⟩ := hx 0 (by omega)
              obtain ⟨-, hlen0, hcell0⟩ := World.cells?_some h10
              have hmem0 : D 0 ∈ (List.range len).map D := List.mem_map.2 ⟨0, List.mem_range.2 (by omega), rfl⟩
              have hN0 : SizeOf.sizeOf (D 0) ≤ N := by
                have h3 := List.sizeOf_lt_of_mem hmem0
                simp only [DataW.slice.sizeOf_spec] at hN3
                omega
              obtain ⟨-, q0, q1, q2, q3, rfl, -, -⟩ := ih (y := (D 0, Pl 0)) hN0 h20 (hd _ hmem0)
              have := hcell0 0 (by omega)
              simpa [Addr.add] using World.cell?_spot this
            obtain ⟨b, off, sp⟩ := a
            simp only at hsp
            subst hsp
            rw [Go.WideShapes.add_plain, Go.WideShapes.add_plain] at hc0 hc1 hc2 hc3
            exact ⟨(j, q0, q1, q2, q3), hr, hF, rfl, by simpa using hc0, by simpa using hc1, by simpa using hc2, by simpa using hc3⟩
          haveI : Inhabited (J × Value × Value × Value × Value) := ⟨(j0, .bool false, .bool false, .bool false, .bool false)⟩
          obtain ⟨q, hq⟩ := Go.Deep.choose_lt each
          have hg : ∀ i, i < len → ((List.range len).map fun i => (q i).1).getD i j0 = (q i).1 := fun i hi => by simp [List.getD, hi]
          have hll : ((List.range len).map fun i => (q i).1).length = len := by simp
          have hR : RdV W (.agg #[.int .u8 (k : Nat), .string s1, .slice an ns.length cn, .slice (some a) ((List.range len).map fun i => (q i).1).length m']) (.mk k s1 ns ((List.range len).map fun i => (q i).1)) := by
            refine RdV.mk k s1 ns _ an cn (some a) m' (fun i => (q i).2) hk hn (by omega) (by rw [hll]; omega) ?_ ?_
            · intro i hi
              rw [hll] at hi
              obtain ⟨h1, h2, h3, h4, h5, h6, h7⟩ := hq i hi
              obtain ⟨b, off, sp⟩ := a
              simp only at h3
              subst h3
              exact ⟨b, off, rfl, h4, h5, h6, h7⟩
            · intro i hi
              rw [hll] at hi
              rw [hg i hi]
              exact (hq i hi).1
          rw [hll] at hR
          refine ⟨_, _, _, _, _, rfl, hR, Fit.mk k s1 ns _ hs1 ln hnz (by rw [hll]; omega) ?_⟩
          intro i hi
          rw [hll] at hi
          rw [hg i hi]
          exact (hq i hi).2.1
/-- An argument that is a Json value. -/
theorem arg_json {base : Nat} {v : Value} {d : DataW H} {p : List MemPlace} (hv : Value.okWide Try.prog W .any base 26 v) (h : DataW.Trod enc Try.prog W 0 (fun _ => true) true 26 v d p) (hz : Sz 26 d) : ∃ j, RdV W v j ∧ Fit j := by
  obtain ⟨cs, rfl, -⟩ := okWide_struct Try.underlying26 hv
  obtain ⟨fuel, hf⟩ := h
  simp only [Value.cells] at hf
  obtain ⟨j, c0, c1, c2, c3, hcs, hr, hF⟩ := open_json (y := (d, p)) _ (Nat.le_refl _) hf hz
  obtain ⟨l⟩ := cs
  simp only at hcs
  subst hcs
  exact ⟨j, hr, hF⟩
end
end Go.Proofs.Ytlfkdmddlnekiaa

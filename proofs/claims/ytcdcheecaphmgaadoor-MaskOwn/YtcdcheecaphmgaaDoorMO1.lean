import Derived.Test.YtcdcheecaphmgaaDoorYX4
import Derived.Test.YtcdcheecaphmgaaDoorBC2
import Derived.Test.YtcdcheecaphmgaaDoorCards
import Derived.Test.YtcdcheecaphmgaaDoorTie
import Derived.Test.YtcdcheecaphmgaaDoorRows
import Derived.Test.YtcdcheecaphmgaaDoorChecked
import Derived.ProofKit
import Derived.OpenShut
import Derived.SizedLaws
import Derived.Deep.DeepHandedRow
import Derived.Lib.LaidTab
import Derived.Deep.Slices
import Derived.Laws.Cover2
set_option linter.unusedVariables false
set_option linter.unusedSimpArgs false
namespace Go.Proofs.YtcdcheecaphmgaaDoor
open Go.ChangeShapes Go.WideShapes Go.ChangeAt Go.RowKit
theorem own : ownKnob Tryd.prog.godebug = none := by kernel_rfl
theorem laidOut : laidOutB Tryd.prog = true := by kernel_rfl
theorem cells2 : Tryd.prog.cellsOf 2 = 1 := by kernel_rfl
theorem cells3 : Tryd.prog.cellsOf 3 = 1 := by kernel_rfl
theorem cells22 : Tryd.prog.cellsOf 22 = 1 := by kernel_rfl
theorem cells24 : Tryd.prog.cellsOf 24 = 2 := by kernel_rfl
theorem cells47 : Tryd.prog.cellsOf 47 = 1 := by kernel_rfl
theorem cells59 : Tryd.prog.cellsOf 59 = 1 := by kernel_rfl
theorem cells60 : Tryd.prog.cellsOf 60 = 1 := by kernel_rfl
theorem cells61 : Tryd.prog.cellsOf 61 = 1 := by kernel_rfl
theorem cells63 : Tryd.prog.cellsOf 63 = 8 := by kernel_rfl
theorem bytes2 : Tryd.prog.bytesOf 2 = 8 := by kernel_rfl
theorem bytes3 : Tryd.prog.bytesOf 3 = 8 := by kernel_rfl
theorem bytes24 : Tryd.prog.bytesOf 24 = 32 := by kernel_rfl
theorem bytes60 : Tryd.prog.bytesOf 60 = 8 := by kernel_rfl
theorem bytes63 : Tryd.prog.bytesOf 63 = 80 := by kernel_rfl
/-- All that is in a datum is of a size that fits. -/
def Sz {H : Type} (t : TypeId) (d : DataW H) : Prop := ∀ n ∈ d.weights Tryd.prog t, n ≤ reachBytes
theorem weightsAll_mem {H : Type} {e : TypeId} : ∀ {l : List (DataW H)} {d : DataW H} {n : Nat}, d ∈ l → n ∈ d.weights Tryd.prog e → n ∈ DataW.weightsAll Tryd.prog e l
  | [], d, n, h, _ => by simp at h
  | x :: l, d, n, h, hn => by
    rw [DataW.weightsAll, List.mem_append]
    rcases List.mem_cons.1 h with rfl | h
    · exact .inl hn
    · exact .inr (weightsAll_mem h hn)
theorem Sz.slice {H : Type} {t e : TypeId} {el sp : List (DataW H)} (h : Sz t (.slice el sp)) (ht : Tryd.prog.underlying t = some (.slice e)) : (el.length + sp.length) * Tryd.prog.bytesOf e ≤ reachBytes ∧ ∀ d ∈ el, Sz e d := by
  have hw : (DataW.slice el sp).weights Tryd.prog t = (el.length + sp.length) * Tryd.prog.bytesOf e :: (DataW.weightsAll Tryd.prog e el ++ DataW.weightsAll Tryd.prog e sp) := by
    simp [DataW.weights, ht]
  refine ⟨h _ (by rw [hw]; simp), fun d hd n hn => h n ?_⟩
  rw [hw]
  exact List.mem_cons_of_mem _ (List.mem_append_left _ (weightsAll_mem hd hn))
theorem Sz.agg {H : Type} {t : TypeId} {fs : Array Field} {ds : List (DataW H)} (h : Sz t (.agg ds)) (ht : Tryd.prog.underlying t = some (.struct fs)) {i : Nat} {f : Field} {d : DataW H} (hf : fs[i]? = some f) (hd : ds[i]? = some d) : Sz f.type d := by
  intro n hn
  refine h n ?_
  have hw : (DataW.agg ds).weights Tryd.prog t = DataW.weightsEach Tryd.prog (fs.toList.map (·.type)) ds := by
    simp [DataW.weights, ht]
  rw [hw]
  refine DataW.weights_mem_each (j := i) (t := f.type) ?_ hd n hn
  simp [hf]
theorem Sz.arg {H : Type} {ts : List TypeId} {ds : List (DataW H)} (hsz : (DataW.weightsEach Tryd.prog ts ds).all (· ≤ reachBytes) = true) {j : Nat} {t : TypeId} {d : DataW H} (ht : ts[j]? = some t) (hd : ds[j]? = some d) : Sz t d := by
  intro n hn
  have := List.all_eq_true.1 hsz n (DataW.weights_mem_each ht hd n hn)
  simpa using this
section
variable {H : Type} {enc : TypeId × Value → H} {W : World}
/-- A list of whole numbers in a cell, opened. -/
theorem open_ints_c {S E : TypeId} (hS : Tryd.prog.underlying S = some (.slice E)) (hE : Tryd.prog.underlying E = some (.int .i64)) (hc : Tryd.prog.cellsOf E = 1) (hb : Tryd.prog.bytesOf E = 8) {fuel : Nat} {v : Value} {y : DataW H × List MemPlace} (hf : DataW.trod enc Tryd.prog W 0 (fun _ => true) true fuel S [v] = some y) (hz : Sz S y.1) :
    ∃ a c l, v = .slice a l.length c ∧ l.length ≤ c ∧ RdI W a l ∧ (∀ x ∈ l, -9223372036854775808 ≤ x ∧ x ≤ 9223372036854775807) ∧ c ≤ 17592186044416 := by
  rcases open_ints hS hE hc hf with ⟨hcs, _⟩ | ⟨x, len, cap, zs, hcs, _, hl, hm, hzs, hx, hcell, hwz⟩
  · simp at hcs
    subst hcs
    exact ⟨none, 0, [], rfl, Nat.le_refl _, RdI.nil _ _, by intro x hx; simp at hx, by omega⟩
  · simp at hcs
    subst hcs
    subst hx
    simp only [if_true] at hzs
    have hlen : (zs.take len).length = len := by simp; omega
    have hsz := (hz.slice hS).1
    rw [hb] at hsz
    simp only [reachBytes, lits, List.length_map, List.length_take, List.length_drop] at hsz
    refine ⟨some x, cap, zs.take len, by rw [hlen], by omega, ?_, ?_, by omega⟩
    · intro j hj
      rw [hlen] at hj
      obtain ⟨b, off, rfl, hc⟩ := ints_at hcell (by omega)
      refine ⟨b, off, rfl, ?_⟩
      rw [hc j (by omega)]
      have e : (zs.take len).getD j 0 = zs.getD j 0 := by simp [List.getD, hj]
      rw [e]
    · intro y hy
      exact bounds_i64 (hwz y (List.mem_of_mem_take hy))
theorem trod_float {t : TypeId} {k : FloatKind} {fuel : Nat} {cs : List Value} {x : DataW H × List MemPlace} (ht : Tryd.prog.underlying t = some (.float k)) (h : DataW.trod enc Tryd.prog W 0 (fun _ => true) true fuel t cs = some x) : ∃ b, cs = [.float k b] ∧ (Lit.float k b).wf = true := by
  cases fuel with
  | zero => simp [DataW.trod] at h
  | succ n =>
    unfold DataW.trod at h
    rw [ht] at h
    split at h
    all_goals simp_all
end
end Go.Proofs.YtcdcheecaphmgaaDoor

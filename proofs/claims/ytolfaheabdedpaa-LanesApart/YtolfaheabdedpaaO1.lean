import Derived.Test.YtolfaheabdedpaaX5
import Derived.Test.YtolfaheabdedpaaRows
import Derived.Test.YtolfaheabdedpaaChecked
import Derived.ProofKit
import Derived.OpenShut
import Derived.SizedLaws
import Derived.Deep.DeepHandedRow
import Derived.Lib.LaidTab
import Derived.Deep.Slices
import Derived.Laws.Cover2
set_option linter.unusedVariables false
set_option linter.unusedSimpArgs false
namespace Go.Proofs.Ytolfaheabdedpaa
open Go.ChangeShapes Go.WideShapes Go.ChangeAt Go.RowKit
theorem own : ownKnob Try.prog.godebug = none := by kernel_rfl
theorem laidOut : laidOutB Try.prog = true := by kernel_rfl
theorem cells3 : Try.prog.cellsOf 3 = 1 := by kernel_rfl
theorem cells33 : Try.prog.cellsOf 33 = 1 := by kernel_rfl
theorem cells35 : Try.prog.cellsOf 35 = 8 := by kernel_rfl
theorem cells46 : Try.prog.cellsOf 46 = 1 := by kernel_rfl
theorem cells51 : Try.prog.cellsOf 51 = 1 := by kernel_rfl
theorem bytes3 : Try.prog.bytesOf 3 = 8 := by kernel_rfl
theorem bytes33 : Try.prog.bytesOf 33 = 8 := by kernel_rfl
theorem bytes35 : Try.prog.bytesOf 35 = 64 := by kernel_rfl
theorem bytes46 : Try.prog.bytesOf 46 = 24 := by kernel_rfl
theorem bytes51 : Try.prog.bytesOf 51 = 24 := by kernel_rfl
/-- All that is in a datum is of a size that fits. -/
def Sz {H : Type} (t : TypeId) (d : DataW H) : Prop := ∀ n ∈ d.weights Try.prog t, n ≤ reachBytes
theorem weightsAll_mem {H : Type} {e : TypeId} : ∀ {l : List (DataW H)} {d : DataW H} {n : Nat}, d ∈ l → n ∈ d.weights Try.prog e → n ∈ DataW.weightsAll Try.prog e l
  | [], d, n, h, _ => by simp at h
  | x :: l, d, n, h, hn => by
    rw [DataW.weightsAll, List.mem_append]
    rcases List.mem_cons.1 h with rfl | h
    · exact .inl hn
    · exact .inr (weightsAll_mem h hn)
theorem Sz.slice {H : Type} {t e : TypeId} {el sp : List (DataW H)} (h : Sz t (.slice el sp)) (ht : Try.prog.underlying t = some (.slice e)) : (el.length + sp.length) * Try.prog.bytesOf e ≤ reachBytes ∧ ∀ d ∈ el, Sz e d := by
  have hw : (DataW.slice el sp).weights Try.prog t = (el.length + sp.length) * Try.prog.bytesOf e :: (DataW.weightsAll Try.prog e el ++ DataW.weightsAll Try.prog e sp) := by
    simp [DataW.weights, ht]
  refine ⟨h _ (by rw [hw]; simp), fun d hd n hn => h n ?_⟩
  rw [hw]
  exact List.mem_cons_of_mem _ (List.mem_append_left _ (weightsAll_mem hd hn))
theorem Sz.arg {H : Type} {ts : List TypeId} {ds : List (DataW H)} (hsz : (DataW.weightsEach Try.prog ts ds).all (· ≤ reachBytes) = true) {j : Nat} {t : TypeId} {d : DataW H} (ht : ts[j]? = some t) (hd : ds[j]? = some d) : Sz t d := by
  intro n hn
  have := List.all_eq_true.1 hsz n (DataW.weights_mem_each ht hd n hn)
  simpa using this
section
variable {H : Type} {enc : TypeId × Value → H} {W : World}
theorem trod_float {t : TypeId} {k : FloatKind} {fuel : Nat} {cs : List Value} {x : DataW H × List MemPlace} (ht : Try.prog.underlying t = some (.float k)) (h : DataW.trod enc Try.prog W 0 (fun _ => true) true fuel t cs = some x) : ∃ b, cs = [.float k b] ∧ (Lit.float k b).wf = true := by
  cases fuel with
  | zero => simp [DataW.trod] at h
  | succ n =>
    unfold DataW.trod at h
    rw [ht] at h
    split at h
    all_goals simp_all
/-- A list of whole numbers in a cell, opened. -/
theorem open_ints_c {S E : TypeId} (hS : Try.prog.underlying S = some (.slice E)) (hE : Try.prog.underlying E = some (.int .i64)) (hc : Try.prog.cellsOf E = 1) (hb : Try.prog.bytesOf E = 8) {fuel : Nat} {v : Value} {y : DataW H × List MemPlace} (hf : DataW.trod enc Try.prog W 0 (fun _ => true) true fuel S [v] = some y) (hz : Sz S y.1) :
    ∃ a c l, v = .slice a l.length c ∧ l.length ≤ c ∧ RdI W a l ∧ (∀ x ∈ l, -9223372036854775808 ≤ x ∧ x ≤ 9223372036854775807) ∧ c ≤ 17592186044416 := by
  rcases open_ints hS hE hc hf with ⟨hcs, _⟩ | ⟨x, len, cap, zs, hcs, _, hl, hm, hzs, hx, hcell, hwz⟩
  · simp at hcs
    subst hcs
    exact ⟨none, 0, [], rfl, Nat.le_refl _, RdI.nil _ _, by intro x hx; simp at hx, by omega⟩
  · simp at hcs
    subst hcs
    subst hx
    simp only [if_true] at hzs
    have hlen : (zs.take len).length = len := by simp; omega
    have hsz := (hz.slice hS).1
    rw [hb] at hsz
    simp only [reachBytes, lits, List.length_map, List.length_take, List.length_drop] at hsz
    refine ⟨some x, cap, zs.take len, by rw [hlen], by omega, ?_, ?_, by omega⟩
    · intro j hj
      rw [hlen] at hj
      obtain ⟨b, off, rfl, hc⟩ := ints_at hcell (by omega)
      refine ⟨b, off, rfl, ?_⟩
      rw [hc j (by omega)]
      have e : (zs.take len).getD j 0 = zs.getD j 0 := by simp [List.getD, hj]
      rw [e]
    · intro y hy
      exact bounds_i64 (hwz y (List.mem_of_mem_take hy))
set_option maxRecDepth 100000 in
theorem arg_ints {base : Nat} {v : Value} {d : DataW H} {p : List MemPlace} (hv : Value.okWide Try.prog W .any base 36 v) (h : DataW.Trod enc Try.prog W 0 (fun _ => true) true 36 v d p) (hz : Sz 36 d) :
    ∃ a c l, v = .slice a (l : List Int).length c ∧ l.length ≤ c ∧ RdI W a l ∧ (∀ x ∈ l, -9223372036854775808 ≤ x ∧ x ≤ 9223372036854775807) ∧ c ≤ 17592186044416 := by
  obtain ⟨a, len, cap, rfl⟩ := okWide_slice Try.underlying36 hv
  obtain ⟨fuel, hf⟩ := h
  exact open_ints_c Try.underlying36 Try.underlying3 cells3 bytes3 hf hz
/-- A lane's cells, opened. -/
theorem open_lane {fuel : Nat} {cs : List Value} {y : DataW H × List MemPlace} (hf : DataW.trod enc Try.prog W 0 (fun _ => true) true fuel 35 cs = some y) :
    ∃ X : Nat → Nat, cs = [.float .f64 (X 0), .float .f64 (X 1), .float .f64 (X 2), .float .f64 (X 3), .float .f64 (X 4), .float .f64 (X 5), .float .f64 (X 6), .float .f64 (X 7)] := by
  obtain ⟨xs, m, -, rfl, hcs, hxs, hel⟩ := DataW.trod_array Try.underlying35 hf
  rw [cells35] at hcs
  rw [cells33] at hel
  have each : ∀ i, i < 8 → ∃ x : Nat, cs[i]? = some (.float .f64 x) := by
    intro i hi
    have h := hel i hi
    obtain ⟨z, hz⟩ : ∃ z, xs[i]? = some z := ⟨xs[i], List.getElem?_eq_getElem (by omega)⟩
    rw [hz, Nat.mul_one] at h
    obtain ⟨b, hb, -⟩ := trod_float Try.underlying33 h
    refine ⟨b, ?_⟩
    have : (List.take 1 (List.drop i cs))[0]? = some (.float .f64 b) := by rw [hb]; rfl
    simpa using this
  obtain ⟨X, hX⟩ := Go.Deep.choose_lt each
  refine ⟨X, ?_⟩
  apply List.ext_getElem?
  intro i
  rcases Nat.lt_or_ge i 8 with h8 | h8
  · rw [hX i h8]
    have : i = 0 ∨ i = 1 ∨ i = 2 ∨ i = 3 ∨ i = 4 ∨ i = 5 ∨ i = 6 ∨ i = 7 := by omega
    rcases this with rfl | rfl | rfl | rfl | rfl | rfl | rfl | rfl <;> rfl
  · rw [List.getElem?_eq_none (by omega), List.getElem?_eq_none (by simpa using h8)]
theorem arg_lane {v : Value} {d : DataW H} {p : List MemPlace} (h : DataW.Trod enc Try.prog W 0 (fun _ => true) true 35 v d p) : ∃ X : Nat → Nat, v = LV X := by
  obtain ⟨fuel, hf⟩ := h
  obtain ⟨X, hX⟩ := open_lane hf
  refine ⟨X, ?_⟩
  cases v with
  | agg cs =>
    obtain ⟨l⟩ := cs
    simp only [Value.cells] at hX
    rw [hX]
  | _ => simp [Value.cells] at hX
end
end Go.Proofs.Ytolfaheabdedpaa

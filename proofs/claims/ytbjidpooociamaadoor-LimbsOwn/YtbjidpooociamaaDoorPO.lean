import Derived.Test.YtbjidpooociamaaDoorRatOpen
import Derived.Test.YtbjidpooociamaaDoorP5
set_option linter.unusedVariables false
set_option linter.unusedSimpArgs false
namespace Go.Proofs.YtbjidpooociamaaDoor
open Go.ChangeShapes Go.WideShapes Go.ChangeAt Go.RowKit Lb
/-- All that is in a datum is of a size that fits. -/
def Sz {H : Type} (t : TypeId) (d : DataW H) : Prop := ∀ n ∈ d.weights Tryd.prog t, n ≤ reachBytes
theorem weightsAll_mem {H : Type} {e : TypeId} : ∀ {l : List (DataW H)} {d : DataW H} {n : Nat}, d ∈ l → n ∈ d.weights Tryd.prog e → n ∈ DataW.weightsAll Tryd.prog e l
  | [], d, n, h, _ => by simp at h
  | x :: l, d, n, h, hn => by
    rw [DataW.weightsAll, List.mem_append]
    rcases List.mem_cons.1 h with rfl | h
    · exact .inl hn
    · exact .inr (weightsAll_mem h hn)
theorem Sz.slice {H : Type} {t e : TypeId} {el sp : List (DataW H)} (h : Sz t (.slice el sp)) (ht : Tryd.prog.underlying t = some (.slice e)) : (el.length + sp.length) * Tryd.prog.bytesOf e ≤ reachBytes ∧ ∀ d ∈ el, Sz e d := by
  have hw : (DataW.slice el sp).weights Tryd.prog t = (el.length + sp.length) * Tryd.prog.bytesOf e :: (DataW.weightsAll Tryd.prog e el ++ DataW.weightsAll Tryd.prog e sp) := by
    simp [DataW.weights, ht]
  refine ⟨h _ (by rw [hw]; simp), fun d hd n hn => h n ?_⟩
  rw [hw]
  exact List.mem_cons_of_mem _ (List.mem_append_left _ (weightsAll_mem hd hn))
theorem Sz.agg {H : Type} {t : TypeId} {fs : Array Field} {ds : List (DataW H)} (h : Sz t (.agg ds)) (ht : Tryd.prog.underlying t = some (.struct fs)) {i : Nat} {f : Field} {d : DataW H} (hf : fs[i]? = some f) (hd : ds[i]? = some d) : Sz f.type d := by
  intro n hn
  refine h n ?_
  have hw : (DataW.agg ds).weights Tryd.prog t = DataW.weightsEach Tryd.prog (fs.toList.map (·.type)) ds := by
    simp [DataW.weights, ht]
  rw [hw]
  refine DataW.weights_mem_each (j := i) (t := f.type) ?_ hd n hn
  simp [hf]
theorem Sz.arg {H : Type} {ts : List TypeId} {ds : List (DataW H)} (hsz : (DataW.weightsEach Tryd.prog ts ds).all (· ≤ reachBytes) = true) {j : Nat} {t : TypeId} {d : DataW H} (ht : ts[j]? = some t) (hd : ds[j]? = some d) : Sz t d := by
  intro n hn
  have := List.all_eq_true.1 hsz n (DataW.weights_mem_each ht hd n hn)
  simpa using this
theorem Sz.limbs {H : Type} {d : DataW H} (h : Sz 22 d) {c : Nat} (hc : c = 0 ∨ ∃ elems spare, d = .slice elems spare ∧ elems.length + spare.length = c) : c ≤ 35184372087808 := by
  rcases hc with rfl | ⟨elems, spare, rfl, hc⟩
  · omega
  · have := (h.slice Tryd.underlying22).1
    rw [bytes62, hc] at this
    simp only [reachBytes] at this
    omega
set_option maxRecDepth 100000 in
/-- An argument that is a quotient, opened: with what the form's reach says of its parts. -/
theorem open_ratio_full {H : Type} {enc : TypeId × Value → H} {W : World} {base : Nat} {v : Value} {d : DataW H} {p : List MemPlace} (hv : Value.okWide Tryd.prog W .any base 47 v) (h : DataW.Trod enc Tryd.prog W 0 (fun _ => true) true 47 v d p) (hs : Sz 47 d) :
    ∃ (ng : Bool) (a : Option Addr) (ca : Nat) (la : List Nat) (b : Option Addr) (cb : Nat) (lb : List Nat), v = .agg #[.bool ng, .slice a la.length ca, .slice b lb.length cb] ∧ la.length ≤ ca ∧ lb.length ≤ cb ∧ Rd W a la ∧ Rd W b lb ∧ Lim la ∧ Lim lb ∧ ca ≤ 35184372087808 ∧ cb ≤ 35184372087808 := by
  obtain ⟨cs, rfl, hcs⟩ := okWide_struct Tryd.underlying47 hv
  rw [cells47] at hcs
  obtain ⟨fuel, hf⟩ := h
  obtain ⟨y0, y1, y2, n, hx, -, t0, t1, t2⟩ := Go.Deep.trod_struct3 Tryd.underlying47 hf
  obtain ⟨l⟩ := cs
  simp only [List.size_toArray] at hcs
  match l, hcs with
  | [c0, c1, c2], _ =>
    simp only [cells4, cells22, Value.cells] at t0 t1 t2
    obtain ⟨ng, e0, -⟩ := DataW.trod_bool Tryd.underlying4 t0
    obtain ⟨a, ca, la, e1, h1, r1, m1, z1⟩ := open_cell t1
    obtain ⟨b, cb, lb, e2, h2, r2, m2, z2⟩ := open_cell t2
    simp only [Prod.mk.injEq] at hx
    rw [hx.1] at hs
    have s1 : Sz 22 y1.1 := Sz.agg (i := 1) hs Tryd.underlying47 rfl rfl
    have s2 : Sz 22 y2.1 := Sz.agg (i := 2) hs Tryd.underlying47 rfl rfl
    refine ⟨ng, a, ca, la, b, cb, lb, ?_, h1, h2, r1, r2, m1, m2, s1.limbs z1, s2.limbs z2⟩
    simp at e0
    rw [e0, e1, e2]
end Go.Proofs.YtbjidpooociamaaDoor

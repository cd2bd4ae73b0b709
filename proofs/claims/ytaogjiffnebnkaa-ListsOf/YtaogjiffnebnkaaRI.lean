import Derived.RegionTactic
import Derived.Orders
set_option linter.unusedVariables false
namespace Go.Proofs.Ytaogjiffnebnkaa
section
variable {P : Program} {ops : Array Oper} {Q : Exit → Act → World → Prop}
theorem count_set {l : List Bool} {i : Nat} (h : l[i]? = some false) : (l.set i true).count false + 1 = l.count false := by
  induction l generalizing i with
  | nil => simp at h
  | cons b l ih =>
    cases i with
    | zero =>
      simp at h
      subst h
      simp
    | succ i =>
      simp only [List.getElem?_cons_succ] at h
      have := ih h
      simp only [List.set_cons_succ, List.count_cons]
      omega
/-- A region in whatever order, by what holds between two of its operations. -/
theorem wpAny_inv (Inv : Array Bool → Act → World → Prop) (hsz : ∀ l a w, Inv l a w → l.size = ops.size)
    (hstep : ∀ l a w i, Inv l a w → i ∈ Region.ready .any ops l → wpOp P ops Q i (Inv (l.setIfInBounds i true)) a w)
    (hend : ∀ l a w, Inv l a w → Region.ready .any ops l = [] → Q .normal a w) :
    ∀ (fuel : Nat) (l : Array Bool) (a : Act) (w : World), Inv l a w → l.toList.count false ≤ fuel → wpAny P .any ops Q fuel l a w
  | 0, l, a, w, h, hc => by
    have hr : Region.ready .any ops l = [] := by
      rw [List.eq_nil_iff_forall_not_mem]
      intro i hi
      obtain ⟨h1, o, ho, -⟩ := mem_ready.1 hi
      have hlt : i < ops.size := (Array.getElem?_eq_some_iff.1 ho).1
      have hlt2 : i < l.size := by rw [hsz l a w h]; exact hlt
      have hg : l[i] = false := by simpa [Array.getD, hlt2] using h1
      have : false ∈ l.toList := by rw [← hg]; simp
      have := List.count_pos_iff.2 this
      omega
    exact ⟨hr, hend l a w h hr⟩
  | fuel + 1, l, a, w, h, hc => by
    refine ⟨hend l a w h, fun i hi => ?_⟩
    obtain ⟨h1, o, ho, -⟩ := mem_ready.1 hi
    have hlt : i < ops.size := (Array.getElem?_eq_some_iff.1 ho).1
    have hlt2 : i < l.size := by rw [hsz l a w h]; exact hlt
    have hg : l.toList[i]? = some false := by
      have : l[i] = false := by simpa [Array.getD, hlt2] using h1
      simp [hlt2, this]
    refine wpOp_mono (fun a' w' h' => wpAny_inv Inv hsz hstep hend fuel _ a' w' h' ?_) (hstep l a w i h hi)
    have := count_set hg
    rw [Array.toList_setIfInBounds]
    omega
/-- The whole region. -/
theorem wp_region_inv {id : Nat} {a : Act} {w : World} (Inv : Array Bool → Act → World → Prop) (hm : P.follows .mixedOrders = true) (hsz : ∀ l a w, Inv l a w → l.size = ops.size)
    (h0 : Inv (Array.replicate ops.size false) a w.drew)
    (hstep : ∀ l a w i, Inv l a w → i ∈ Region.ready .any ops l → wpOp P ops Q i (Inv (l.setIfInBounds i true)) a w)
    (hend : ∀ l a w, Inv l a w → Region.ready .any ops l = [] → Q .normal a w) : (Code.region id ops true).wp P Q a w :=
  wp_region_any hm (wpAny_inv Inv hsz hstep hend _ _ _ _ h0 (by simp))
/-- Where nothing may come up, an operation whose forerunners are through is through. -/
theorem ready_nil {l : Array Bool} (h : Region.ready .any ops l = []) {i : Nat} {o : Oper} (ho : ops[i]? = some o) (hs : l.size = ops.size) (hd : ∀ e ∈ o.after, Region.binds .any e = true → l.getD e.on false = true) : l.getD i false = true := by
  have hlt : i < l.size := by rw [hs]; exact (Array.getElem?_eq_some_iff.1 ho).1
  cases hb : l[i] with
  | true => simp [Array.getD, hlt, hb]
  | false =>
    have : i ∈ Region.ready .any ops l := mem_ready.2 ⟨by simp [Array.getD, hlt, hb], o, ho, hd⟩
    rw [h] at this
    simp at this
theorem listed_set {l : Array Bool} {i j : Nat} (h : (l.setIfInBounds i true).getD j false = true) : j = i ∨ l.getD j false = true := by
  by_cases e : j = i
  · exact .inl e
  · rw [getD_set_ne false (Ne.symm e)] at h
    exact .inr h
end
end Go.Proofs.Ytaogjiffnebnkaa

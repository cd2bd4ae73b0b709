import Derived.Test.YtbchinfmdioijaaRI
import Derived.OrdersIn
import Derived.RegionIn
set_option linter.unusedVariables false
namespace Go.Proofs.Ytbchinfmdioijaa
section
variable {F : Fence} {n : Nat} {P : Program} {ops : Array Oper} {Q : Exit → Act → World → Prop}
/-- The same inside a fence. -/
theorem wpAnyIn_inv (Inv : Array Bool → Act → World → Prop) (hsz : ∀ l a w, Inv l a w → l.size = ops.size)
    (hstep : ∀ l a w i, Inv l a w → i ∈ Region.ready .any ops l → wpOpIn F n P ops Q i (Inv (l.setIfInBounds i true)) a w)
    (hend : ∀ l a w, Inv l a w → Region.ready .any ops l = [] → Q .normal a w) :
    ∀ (fuel : Nat) (l : Array Bool) (a : Act) (w : World), Inv l a w → l.toList.count false ≤ fuel → wpAnyIn F n P .any ops Q fuel l a w
  | 0, l, a, w, h, hc => by
    have hr : Region.ready .any ops l = [] := by
      rw [List.eq_nil_iff_forall_not_mem]
      intro i hi
      obtain ⟨h1, o, ho, -⟩ := mem_ready.1 hi
      have hlt : i < ops.size := (Array.getElem?_eq_some_iff.1 ho).1
      have hlt2 : i < l.size := by rw [hsz l a w h]; exact hlt
      have hg : l[i] = false := by simpa [Array.getD, hlt2] using h1
      have : false ∈ l.toList := by rw [← hg]; simp
      have := List.count_pos_iff.2 this
      omega
    exact ⟨hr, hend l a w h hr⟩
  | fuel + 1, l, a, w, h, hc => by
    refine ⟨hend l a w h, fun i hi => ?_⟩
    obtain ⟨h1, o, ho, -⟩ := mem_ready.1 hi
    have hlt : i < ops.size := (Array.getElem?_eq_some_iff.1 ho).1
    have hlt2 : i < l.size := by rw [hsz l a w h]; exact hlt
    have hg : l.toList[i]? = some false := by
      have : l[i] = false := by simpa [Array.getD, hlt2] using h1
      simp [hlt2, this]
    refine wpOpIn_mono (fun a' w' h' => wpAnyIn_inv Inv hsz hstep hend fuel _ a' w' h' ?_) (hstep l a w i h hi)
    have := count_set hg
    rw [Array.toList_setIfInBounds]
    omega
theorem wpIn_region_inv {id : Nat} {a : Act} {w : World} (Inv : Array Bool → Act → World → Prop) (hm : P.follows .mixedOrders = true) (hsz : ∀ l a w, Inv l a w → l.size = ops.size)
    (h0 : Inv (Array.replicate ops.size false) a w.drew)
    (hstep : ∀ l a w i, Inv l a w → i ∈ Region.ready .any ops l → wpOpIn F n P ops Q i (Inv (l.setIfInBounds i true)) a w)
    (hend : ∀ l a w, Inv l a w → Region.ready .any ops l = [] → Q .normal a w) : (Code.region id ops true).wpIn F n P Q a w :=
  wpIn_region_any hm (wpAnyIn_inv Inv hsz hstep hend _ _ _ _ h0 (by simp))
theorem wpOpIn_stp {i : Nat} {o : Oper} {K : Act → World → Prop} {a : Act} {w : World} (ho : ops[i]? = some o)
    (h : ∀ K' : Act → World → Prop, (∀ a w, K a w → K' a w) → if Region.wanted o (yielded ops a.tmps) = true then Oper.wpIn F n P o a w K' Q else ((∀ f, o.about P w a.eval = some f → F.fn f) ∧ K' (a.put o.dst undef) w)) : wpOpIn F n P ops Q i K a w := by
  have := h K (fun _ _ h => h)
  unfold wpOpIn
  rw [ho]
  exact this
end
end Go.Proofs.Ytbchinfmdioijaa

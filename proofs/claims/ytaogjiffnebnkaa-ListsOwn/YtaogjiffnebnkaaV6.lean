import Derived.Test.YtaogjiffnebnkaaV3
import Derived.Deep.RegionHeld3
set_option linter.unusedVariables false
set_option linter.unusedSimpArgs false
namespace Go.Proofs.Ytaogjiffnebnkaa
open Go.RowKit Go.Shelf Go.Maps
attribute [local go_sem] run_store_float
/-- What a cut's making leaves. -/
structure Mkd (W W2 : World) (cb : Nat) (N : Ct) (va : Option Addr) (cc : Nat) : Prop where
  k : Keep W W2
  le : W.heap.size ≤ cb
  c : W2.heap[cb]? = some (Obj.cells (N.cells va cc) 57 (0, 0))
  z : OwnZ 3 W.heap.size W2 (.slice va N.cs.length cc) N.cs
end Go.Proofs.Ytaogjiffnebnkaa
set_option linter.unusedVariables false
set_option linter.unusedSimpArgs false
namespace Go.Proofs.Ytaogjiffnebnkaa
open Go.RowKit Go.Shelf Go.Maps
section
variable {w0 w2 W : World} {mb : Nat} {vo : Value} {T : List Li} {X : GX} {nb cb : Nat} {d : Nd} {nca : Option Addr} {ncp : Nat} {N : Ct} {va : Option Addr} {cc : Nat}
theorem RS.start {wr w3 w4 : World} (hG : HJ w0.heap.size wr mb X) (hO : OwnL w0.heap.size wr vo T) (kw : Keep w0 wr) (kt : KT w2 wr) (k3 : Keep wr w3) (r3 : w3.heap[nb]? = some (Obj.cells (d.cells nca ncp) 83 (0, 0))) (hM : Mkd w3 w4 cb N va cc) (hs : N.cs.length ≤ 17592186044416) : RS w0 w2 mb vo T X nb cb d nca ncp N va cc w4 := by
  refine ⟨(hG.keep k3).keep hM.k, (hO.keep k3).keep hM.k, Keep.trans (Keep.trans kw k3) hM.k, (kt.trans (KT.of_keep k3)).trans (KT.of_keep hM.k), (hM.k.block _ (Array.getElem?_eq_some_iff.1 r3).1).trans r3, hM.c, hM.z.mono (Nat.le_trans kw.le k3.le), hs, ?_⟩
  intro i j hi hj e
  obtain ⟨-, c2, hc⟩ := (hG.row i hi j hj).block e
  have := (Array.getElem?_eq_some_iff.1 hc).1
  have := hM.le
  have := k3.le
  omega
/-- One list more. -/
theorem RS.grow (h : RS w0 w2 mb vo (its X) X nb cb d nca ncp N va cc W) {φ : Int} {v5 : Value} {w5 : World} (hO5 : OwnL w0.heap.size w5 v5 (its X ++ [⟨φ, none, 0, 0, none, 0, 0, none, 0, 0⟩])) (g5 : (W.alloc (Obj.cells #[Value.int .i64 φ, .slice none 0 0, .slice none 0 0, .slice none 0 0] 33)).grownBy w5 vo.ownBlock) {q : Nat} (hq : X.n + 1 = q) : RS w0 w2 mb v5 (its X ++ [⟨φ, none, 0, 0, none, 0, 0, none, 0, 0⟩]) X nb cb d nca ncp N va cc w5 ∧ ∃ g cap, v5 = .slice (some ⟨g, 0, none⟩) q cap := by
  refine ⟨(h.keep ((Keep.refl W).alloc _)).lists hO5 g5, ?_⟩
  obtain ⟨g, cap, e, -⟩ := hO5.shape (by rw [List.length_append]; exact Nat.lt_of_lt_of_le Nat.zero_lt_one (Nat.le_add_left _ _))
  rw [List.length_append, its_len, List.length_singleton, hq] at e
  exact ⟨g, cap, e⟩
/-- The list's box, laid. -/
theorem RS.box (h : RS w0 w2 mb vo T X nb cb d nca ncp N va cc W) {i : Nat} {vs : Array Value} (hv : vs = #[.int .i64 (X.f i), X.v i 0, X.v i 1, X.v i 2]) : RS w0 w2 mb vo T X nb cb d nca ncp N va cc (W.alloc (Obj.cells vs 33)) ∧ XB (W.alloc (Obj.cells vs 33)) vo W.heap.size i X w0.heap.size := by
  subst hv
  refine ⟨h.keep ((Keep.refl W).alloc _), ⟨heap_alloc_new W _, ?_, h.k0.le⟩⟩
  intro e
  obtain ⟨-, c2, hc⟩ := h.out.block e
  have := (Array.getElem?_eq_some_iff.1 hc).1
  omega
end
theorem ConM.th {X : GX} {S : List (Nd × Ct)} {P : Int → Prop} (h : ConM X S P) {R : Ct → Prop} (hR : ∀ s ∈ S, R s.2) {i : Nat} (hi : i < X.n) : ∀ y ∈ X.K i 0, R y.1 := by
  intro y hy
  obtain ⟨-, G, hG, hE⟩ := h.num i hi
  have hm : y.1 ∈ G.map (fun r => r.1) := List.mem_map.2 ⟨y, hE.mem hy, rfl⟩
  rw [hG] at hm
  unfold sel at hm
  obtain ⟨s, hs, e⟩ := List.mem_map.1 hm
  rw [← e]
  exact hR s (List.mem_filter.1 hs).1
end Go.Proofs.Ytaogjiffnebnkaa

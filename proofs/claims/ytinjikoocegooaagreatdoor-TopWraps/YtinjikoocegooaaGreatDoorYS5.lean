import Derived.Test.YtinjikoocegooaaGreatDoorProg
import Derived.RegionTactic
import Derived.Orders
import Derived.Test.YtinjikoocegooaaGreatDoorYV1
import Derived.Test.YtinjikoocegooaaGreatDoorYX4
import Derived.WalkKit
import Derived.WalkSpells
import Derived.WalkLawsBesides
import Derived.Deep.Draws
import Derived.Deep.QuietTactic
import Derived.BigQuiet
import Derived.Laws.Externs
import Derived.Laws.CopyOwn
import Derived.RangeFuncBox
import Derived.RangeFuncLeaves
import Derived.RangeFuncCalls
import Derived.RangeFuncRecord
import Derived.Below
import Derived.Shelf.Abstract
import Derived.OwnWalkIn
import Derived.TacticsInMore
import Derived.LoopNIn
import Derived.LoopIn
import Derived.Sort.LoopGhostIn
import Derived.Deep.RegionLaw
import Derived.Deep.RegionWith
import Derived.Deep.RegionHeld3
import Derived.Stop.RegionWithIn
import Derived.OrdersIn
import Derived.RegionIn
import Derived.Test.YtinjikoocegooaaGreatDoorYR1
set_option linter.unusedVariables false
namespace Go.Proofs.YtinjikoocegooaaGreatDoor
section
variable {P : Program} {ops : Array Oper} {Q : Exit → Act → World → Prop}
theorem count_set {l : List Bool} {i : Nat} (h : l[i]? = some false) : (l.set i true).count false + 1 = l.count false := by
  induction l generalizing i with
  | nil => simp at h
  | cons b l ih =>
    cases i with
    | zero =>
      simp at h
      subst h
      simp
    | succ i =>
      simp only [List.getElem?_cons_succ] at h
      have := ih h
      simp only [List.set_cons_succ, List.count_cons]
      omega
/-- A region in whatever order, by what holds between two of its operations. -/
theorem wpAny_inv (Inv : Array Bool → Act → World → Prop) (hsz : ∀ l a w, Inv l a w → l.size = ops.size)
    (hstep : ∀ l a w i, Inv l a w → i ∈ Region.ready .any ops l → wpOp P ops Q i (Inv (l.setIfInBounds i true)) a w)
    (hend : ∀ l a w, Inv l a w → Region.ready .any ops l = [] → Q .normal a w) :
    ∀ (fuel : Nat) (l : Array Bool) (a : Act) (w : World), Inv l a w → l.toList.count false ≤ fuel → wpAny P .any ops Q fuel l a w
  | 0, l, a, w, h, hc => by
    have hr : Region.ready .any ops l = [] := by
      rw [List.eq_nil_iff_forall_not_mem]
      intro i hi
      obtain ⟨h1, o, ho, -⟩ := mem_ready.1 hi
      have hlt : i < ops.size := (Array.getElem?_eq_some_iff.1 ho).1
      have hlt2 : i < l.size := by rw [hsz l a w h]; exact hlt
      have hg : l[i] = false := by simpa [Array.getD, hlt2] using h1
      have : false ∈ l.toList := by rw [← hg]; simp
      have := List.count_pos_iff.2 this
      omega
    exact ⟨hr, hend l a w h hr⟩
  | fuel + 1, l, a, w, h, hc => by
    refine ⟨hend l a w h, fun i hi => ?_⟩
    obtain ⟨h1, o, ho, -⟩ := mem_ready.1 hi
    have hlt : i < ops.size := (Array.getElem?_eq_some_iff.1 ho).1
    have hlt2 : i < l.size := by rw [hsz l a w h]; exact hlt
    have hg : l.toList[i]? = some false := by
      have : l[i] = false := by simpa [Array.getD, hlt2] using h1
      simp [hlt2, this]
    refine wpOp_mono (fun a' w' h' => wpAny_inv Inv hsz hstep hend fuel _ a' w' h' ?_) (hstep l a w i h hi)
    have := count_set hg
    rw [Array.toList_setIfInBounds]
    omega
/-- The whole region. -/
theorem wp_region_inv {id : Nat} {a : Act} {w : World} (Inv : Array Bool → Act → World → Prop) (hm : P.follows .mixedOrders = true) (hsz : ∀ l a w, Inv l a w → l.size = ops.size)
    (h0 : Inv (Array.replicate ops.size false) a w.drew)
    (hstep : ∀ l a w i, Inv l a w → i ∈ Region.ready .any ops l → wpOp P ops Q i (Inv (l.setIfInBounds i true)) a w)
    (hend : ∀ l a w, Inv l a w → Region.ready .any ops l = [] → Q .normal a w) : (Code.region id ops true).wp P Q a w :=
  wp_region_any hm (wpAny_inv Inv hsz hstep hend _ _ _ _ h0 (by simp))
/-- Where nothing may come up, an operation whose forerunners are through is through. -/
theorem ready_nil {l : Array Bool} (h : Region.ready .any ops l = []) {i : Nat} {o : Oper} (ho : ops[i]? = some o) (hs : l.size = ops.size) (hd : ∀ e ∈ o.after, Region.binds .any e = true → l.getD e.on false = true) : l.getD i false = true := by
  have hlt : i < l.size := by rw [hs]; exact (Array.getElem?_eq_some_iff.1 ho).1
  cases hb : l[i] with
  | true => simp [Array.getD, hlt, hb]
  | false =>
    have : i ∈ Region.ready .any ops l := mem_ready.2 ⟨by simp [Array.getD, hlt, hb], o, ho, hd⟩
    rw [h] at this
    simp at this
theorem listed_set {l : Array Bool} {i j : Nat} (h : (l.setIfInBounds i true).getD j false = true) : j = i ∨ l.getD j false = true := by
  by_cases e : j = i
  · exact .inl e
  · rw [getD_set_ne false (Ne.symm e)] at h
    exact .inr h
end
end Go.Proofs.YtinjikoocegooaaGreatDoor
set_option linter.unusedVariables false
set_option linter.unusedSimpArgs false
namespace Go.Proofs.YtinjikoocegooaaGreatDoor
open Go.RowKit Go.Shelf
attribute [local go_sem] Oper.semAt_some
/-- What the operations of Depth's assignment yield. -/
def dpV (A N b p ai bi y X : Nat) : Nat → Value
  | 0 => .slice (some ⟨A, 0, none⟩) N N
  | 1 => .pointer (some ⟨b, p, none⟩)
  | 2 => .pointer (some ⟨b, p, none⟩)
  | 3 => .pointer (some ⟨b, p + 6, none⟩)
  | 4 => .int .i64 (ai : Nat)
  | 5 => .slice (some ⟨A, 0, none⟩) N N
  | 6 => .pointer (some ⟨b, p, none⟩)
  | 7 => .pointer (some ⟨b, p, none⟩)
  | 8 => .pointer (some ⟨b, p + 7, none⟩)
  | 9 => .int .i64 (bi : Nat)
  | 10 => .slice (some ⟨A, 0, none⟩) N N
  | 11 => .int .i64 (y : Nat)
  | 12 => .pointer (some ⟨A, y, none⟩)
  | 13 => .int .i64 (X : Nat)
  | 14 => .int .i64 ((X : Int) + 1)
  | 15 => .slice (some ⟨A, 0, none⟩) N N
  | 16 => .int .i64 (y : Nat)
  | 17 => .pointer (some ⟨A, y, none⟩)
  | 18 => .int .i64 (X : Nat)
  | 19 => .int .i64 ((X : Int) + 1)
  | 20 => .pointer (some ⟨A, ai, none⟩)
  | 46 => .pointer (some ⟨A, bi, none⟩)
  | _ => undef
def dpW (W : World) (A ai bi X : Nat) (l : Array Bool) : World :=
  if l.getD 23 false = true then (W.setCell ⟨A, ai, none⟩ (.int .i64 ((X : Int) + 1))).setCell ⟨A, bi, none⟩ (.int .i64 ((X : Int) + 1)) else if l.getD 21 false = true then W.setCell ⟨A, ai, none⟩ (.int .i64 ((X : Int) + 1)) else W
def dpD : List Nat := [20, 14, 0, 1, 2, 3, 4, 9, 10, 11, 12, 13, 18]
/-- What holds between two of them. -/
def dpI (W : World) (A N b p ai bi y X : Nat) (FR : (Nat → Value) → Act) (l : Array Bool) (Ac : Act) (w : World) : Prop :=
  l.size = 48 ∧ (∃ x : Nat → Value, Ac = FR x ∧ ∀ j, j < 23 → j ≠ 21 → l.getD j false = true → x j = dpV A N b p ai bi y X j) ∧ w = dpW W A ai bi X l ∧ (l.getD 21 false = true → ∀ j ∈ dpD, l.getD j false = true) ∧ (l.getD 23 false = true → ∀ j, j < 23 → l.getD j false = true)
theorem set_same {l : Array Bool} {i : Nat} (h : i < l.size) : (l.setIfInBounds i true).getD i false = true := by simp [Array.getD, h]
theorem dpI.next {W : World} {A N b p ai bi y X : Nat} {FR : (Nat → Value) → Act} {l : Array Bool} {x : Nat → Value} {A' : Act} {w' : World} {i : Nat} {v : Value} (hs : l.size = 48) (hx : ∀ j, j < 23 → j ≠ 21 → l.getD j false = true → x j = dpV A N b p ai bi y X j) (h21 : l.getD 21 false = true → ∀ j ∈ dpD, l.getD j false = true) (h23 : l.getD 23 false = true → ∀ j, j < 23 → l.getD j false = true)
    (hi : i < 48) (hA : A' = FR (fun j => if j = i then v else x j)) (hv : i < 23 → i ≠ 21 → v = dpV A N b p ai bi y X i) (hw : w' = dpW W A ai bi X (l.setIfInBounds i true)) (n21 : i = 21 → ∀ j ∈ dpD, l.getD j false = true) (n23 : i = 23 → ∀ j, j < 23 → l.getD j false = true) : dpI W A N b p ai bi y X FR (l.setIfInBounds i true) A' w' := by
  have up : ∀ j, l.getD j false = true → (l.setIfInBounds i true).getD j false = true := fun j hj => by
    by_cases e : i = j
    · subst e; exact set_same (by omega)
    · rw [getD_set_ne false e]; exact hj
  refine ⟨by simpa using hs, ⟨_, hA, ?_⟩, hw, ?_, ?_⟩
  · intro j h1 h2 hj
    by_cases e : j = i
    · subst e; rw [if_pos rfl]; exact hv h1 h2
    · rw [if_neg e]
      rcases listed_set hj with e2 | hj
      · exact absurd e2 e
      · exact hx j h1 h2 hj
  · intro h j hj
    rcases listed_set h with e | h
    · exact up j (n21 e.symm j hj)
    · exact up j (h21 h j hj)
  · intro h j hj
    rcases listed_set h with e | h
    · exact up j (n23 e.symm j hj)
    · exact up j (h23 h j hj)
/-- What Depth holds between two rounds. -/
structure DepI (L : List Nd) (A : Nat) (w3 : World) (pre : List Nat) (T : Nat → Prop) (W : World) : Prop where
  row : RowI W A (dfold (shp L) L.length pre).1
  bx : W.heap[A + 1]? = some (.cells #[.slice (some ⟨A, 0, none⟩) L.length L.length] 28 (0, 0))
  gr : W.heap[A + 1 + 1]? = some (.cells #[.int .i64 ((dfold (shp L) L.length pre).2 : Nat)] 3 (0, 0))
  tb : ∀ g, T g → A + 3 ≤ g
  be : Below A w3 W
  sz : A + 4 ≤ W.heap.size
theorem DepI.st {L : List Nd} {A : Nat} {w3 : World} {pre : List Nat} {T : Nat → Prop} {W B : World} (h : DepI L A w3 pre T W) (hst : Stp T W B) : DepI L A w3 pre (more T W B) B := by
  obtain ⟨q1, q2, q3, q4, q5, q6⟩ := h
  have kp : ∀ g, g < A + 3 → B.heap[g]? = W.heap[g]? := fun g hg => hst.block g (by omega) (fun h => by have := q4 g h; omega)
  refine ⟨by unfold RowI; rw [kp _ (by omega)]; exact q1, by rw [kp _ (by omega)]; exact q2, by rw [kp _ (by omega)]; exact q3, ?_, ?_, by have := hst.size; omega⟩
  · rintro g (h | h)
    · exact q4 g h
    · omega
  · exact ⟨hst.os.trans q5.os, hst.tape.trans q5.tape, hst.output.trans q5.output, by have := hst.size; have := q5.size; omega, fun g hg => (kp g (by omega)).trans (q5.block g hg)⟩
theorem DepI.put {L : List Nd} {A : Nat} {w3 : World} {pre : List Nat} {T : Nat → Prop} {W : World} {r : Nat} {o' : Obj} (h : DepI L A w3 pre T W) (h1 : A + 4 ≤ r) : DepI L A w3 pre T (W.putObj r o') := by
  obtain ⟨q1, q2, q3, q4, q5, q6⟩ := h
  have kp : ∀ g, g < A + 3 → (W.putObj r o').heap[g]? = W.heap[g]? := fun g hg => World.putObj_heap_other (by omega)
  refine ⟨by unfold RowI; rw [kp _ (by omega)]; exact q1, by rw [kp _ (by omega)]; exact q2, by rw [kp _ (by omega)]; exact q3, q4, ?_, by simpa using q6⟩
  exact ⟨q5.os, q5.tape, q5.output, by simpa using q5.size, fun g hg => (kp g (by omega)).trans (q5.block g hg)⟩
end Go.Proofs.YtinjikoocegooaaGreatDoor
set_option linter.unusedVariables false
set_option linter.unusedSimpArgs false
namespace Go.Proofs.YtinjikoocegooaaGreatDoor
open Go.RowKit Go.Shelf
theorem int_ext {a b : List Int} (h1 : a.length = b.length) (h2 : ∀ j, j < a.length → a.getD j 0 = b.getD j 0) : a = b := by
  apply List.ext_getElem h1
  intro i h3 h4
  have := h2 i h3
  simpa [List.getD, h3, h4] using this
end Go.Proofs.YtinjikoocegooaaGreatDoor
set_option linter.unusedVariables false
set_option linter.unusedSimpArgs false
namespace Go.Proofs.YtinjikoocegooaaGreatDoor
open Go.RowKit Go.Shelf
/-- What each of the region's operations has left. -/
def lvF (a : Option Addr) (w4 : World) (x : Nat → Value) (w : World) : Nat → Prop
  | 0 => ∃ b, x 0 = .slice (some ⟨b, 0, none⟩) 2 2
  | 1 => ∃ b, x 1 = .slice (some ⟨b, 0, none⟩) 1 1 ∧ w.cell? ⟨b, 0, none⟩ = some (.int .i64 7)
  | 2 => x 2 = .agg #[.int .i64 0, .slice a 5 5]
  | 3 => ∃ b, x 3 = .slice (some ⟨b, 0, none⟩) 1 1 ∧ w.cell? ⟨b, 0, none⟩ = some (.int .i64 0) ∧ w.cell? ⟨b, 1, none⟩ = some (.slice a 5 5)
  | 4 => ∃ b0 b1 b3, x 4 = .agg #[.string ⟨#[]⟩, .slice (some ⟨b0, 0, none⟩) 2 2, .int .i64 1, .slice (some ⟨b1, 0, none⟩) 1 1, .slice (some ⟨b3, 0, none⟩) 1 1] ∧ w.cell? ⟨b1, 0, none⟩ = some (.int .i64 7) ∧ w.cell? ⟨b3, 0, none⟩ = some (.int .i64 0) ∧ w.cell? ⟨b3, 1, none⟩ = some (.slice a 5 5)
  | 5 => x 5 = .float .f64 9221120237041090561
  | 6 => ∃ b, x 6 = .slice (some ⟨b, 0, none⟩) 2 2 ∧ w.cell? ⟨b, 0, none⟩ = some (.float .f64 0) ∧ w.cell? ⟨b, 1, none⟩ = some (.float .f64 9221120237041090561)
  | 7 => ∃ v, x 7 = .tuple #[v, .int .i64 0] ∧ OwnZ 2 w4.heap.size w v [55]
  | 8 => ∃ v, x 8 = .tuple #[v, .int .i64 0] ∧ OwnZ 2 w4.heap.size w v [55]
  | 9 => OwnZ 2 w4.heap.size w (x 9) [55]
  | 10 => x 10 = .int .i64 0
  | 11 => OwnZ 2 w4.heap.size w (x 11) [55]
  | 12 => x 12 = .int .i64 0
  | _ => True
theorem lvF.keep {a : Option Addr} {w4 : World} {x x' : Nat → Value} {w w' : World} {j : Nat} (k : Keep w w') (hx : x' j = x j) (h : lvF a w4 x w j) : lvF a w4 x' w' j := by
  match j, hx, h with
  | 0, hx, h => obtain ⟨b, e⟩ := h; exact ⟨b, hx.trans e⟩
  | 1, hx, h => obtain ⟨b, e, c⟩ := h; exact ⟨b, hx.trans e, k.cell c⟩
  | 2, hx, h => exact Eq.trans hx h
  | 3, hx, h => obtain ⟨b, e, c, d⟩ := h; exact ⟨b, hx.trans e, k.cell c, k.cell d⟩
  | 4, hx, h => obtain ⟨b0, b1, b3, e, c, d, f⟩ := h; exact ⟨b0, b1, b3, hx.trans e, k.cell c, k.cell d, k.cell f⟩
  | 5, hx, h => exact Eq.trans hx h
  | 6, hx, h => obtain ⟨b, e, c, d⟩ := h; exact ⟨b, hx.trans e, k.cell c, k.cell d⟩
  | 7, hx, h => obtain ⟨v, e, c⟩ := h; exact ⟨v, hx.trans e, c.keep k⟩
  | 8, hx, h => obtain ⟨v, e, c⟩ := h; exact ⟨v, hx.trans e, c.keep k⟩
  | 9, hx, h => exact (show OwnZ 2 w4.heap.size w' (x' 9) [55] by rw [hx]; exact OwnZ.keep h k)
  | 10, hx, h => exact Eq.trans hx h
  | 11, hx, h => exact (show OwnZ 2 w4.heap.size w' (x' 11) [55] by rw [hx]; exact OwnZ.keep h k)
  | 12, hx, h => exact Eq.trans hx h
  | n + 13, hx, h => trivial
def lvI (a : Option Addr) (w4 : World) (FR : (Nat → Value) → Act) (l : Array Bool) (A : Act) (w : World) : Prop :=
  l.size = 13 ∧ ∃ x : Nat → Value, A = FR x ∧ Keep w4 w ∧ ∀ j, l.getD j false = true → lvF a w4 x w j
def upd (x : Nat → Value) (i : Nat) (v : Value) : Nat → Value := fun j => if j = i then v else x j
theorem lvI.next {a : Option Addr} {w4 : World} {FR : (Nat → Value) → Act} {l : Array Bool} {x : Nat → Value} {A' : Act} {w w' : World} {i : Nat} {v : Value} (hs : l.size = 13) (k0 : Keep w4 w) (h : ∀ j, l.getD j false = true → lvF a w4 x w j) (k : Keep w w') (hA : A' = FR (upd x i v)) (hf : lvF a w4 (upd x i v) w' i) : lvI a w4 FR (l.setIfInBounds i true) A' w' := by
  refine ⟨by simpa using hs, upd x i v, hA, k0.trans k, ?_⟩
  intro j hj
  rcases listed_set hj with rfl | hj
  · exact hf
  · by_cases e : j = i
    · subst e; exact hf
    · exact (h j hj).keep k (by simp [upd, e])
end Go.Proofs.YtinjikoocegooaaGreatDoor
set_option linter.unusedVariables false
set_option linter.unusedSimpArgs false
namespace Go.Proofs.YtinjikoocegooaaGreatDoor
open Go.RowKit Go.Shelf
attribute [local go_sem] run_store_float
/-- append(nil, l...), whether l is nil or not. -/
theorem wpList_copyAny {w : World} {ops : Array Oper} {rest : List Oper} {o : Oper} {a : Act} {Q : Exit → Act → World → Prop} (hgd : o.guard = none) (s x : Operand)
    (ho : o.op = .call { callee := .builtin .append, args := #[s, x], argTypes := #[28, 28] }) (l : List Int) (ad : Option Addr) (c : Nat) (hs : a.eval s = .slice none 0 0)
    (hx : a.eval x = .slice ad l.length c) (hr : RdI w ad l) (hlen : l.length ≤ 17592186044416)
    (hK : ∀ v w1, OwnZ 3 w.heap.size w1 v l → Keep w w1 → wpList Tryz.prog ops Q rest (a.put o.dst v) w1) :
    wpList Tryz.prog ops Q (o :: rest) a w := by
  rcases ad with _ | ad
  · obtain rfl : l = [] := by
      by_cases h : l = []
      · exact h
      · obtain ⟨b, o, e, -⟩ := hr 0 (List.length_pos_iff.2 h); cases e
    refine wpList_plain hgd fun K hK' => ?_
    have hrun : (Builtin.append_ #[28, 28] o.type #[.slice none 0 0, .slice none 0 c]).run Tryz.prog w = .ok (.slice none 0 0) w := by
      go_simp
    unfold Oper.wp
    simp [execOp, ho, resolve, invoke, builtin, hs, hx, hrun, Result.andThen]
    exact hK' _ _ (hK _ w (OwnZ.nil _ _ _) (Keep.refl w))
  · exact wpList_copyN hgd s x ho l ad c hs hx hr hlen hK
/-- Nodes as cells. -/
def UN : List (Nd × Option Addr × Nat) → List Value
  | [] => []
  | r :: L => .int .u8 r.1.kd :: .int .i64 r.1.vl :: .int .i64 r.1.ft :: .float .f64 r.1.th :: .slice r.2.1 r.1.cs.length r.2.2 :: .int .u8 r.1.ms :: .int .i64 r.1.lf :: .int .i64 r.1.rt :: UN L
theorem UN_append : ∀ L M, UN (L ++ M) = UN L ++ UN M
  | [], _ => rfl
  | r :: L, M => by simp [UN, UN_append L M]
theorem UN_length : ∀ L, (UN L).length = L.length * 8
  | [] => rfl
  | r :: L => by simp [UN, UN_length L]; omega
theorem UN_one : ∀ L, ∀ u ∈ UN L, u.oneCell' = true
  | [], u, h => by simp [UN] at h
  | r :: L, u, h => by
    simp only [UN, List.mem_cons] at h
    rcases h with rfl | rfl | rfl | rfl | rfl | rfl | rfl | rfl | h
    all_goals first | rfl | exact UN_one L u h
abbrev nt0 : Nd × Option Addr × Nat := (nd0, none, 0)
theorem UN_get : ∀ (K : List (Nd × Option Addr × Nat)) (j i : Nat), j < K.length → i < 8 → (UN K)[j * 8 + i]? = (UN [K.getD j nt0])[i]?
  | [], j, i, h, _ => by simp at h
  | r :: K, 0, i, _, hi => by
    simp only [Nat.zero_mul, Nat.zero_add, List.getD_cons_zero]
    match i, hi with
    | 0, _ => rfl
    | 1, _ => rfl
    | 2, _ => rfl
    | 3, _ => rfl
    | 4, _ => rfl
    | 5, _ => rfl
    | 6, _ => rfl
    | 7, _ => rfl
  | r :: K, j + 1, i, h, hi => by
    have := UN_get K j i (by simpa using h) hi
    rw [show (j + 1) * 8 + i = (j * 8 + i) + 1 + 1 + 1 + 1 + 1 + 1 + 1 + 1 by omega]
    simp only [UN, List.getElem?_cons_succ, List.getD_cons_succ]
    exact this
def OwnN (B : Nat) (w : World) (v : Value) (K : List (Nd × Option Addr × Nat)) : Prop := w.ownsRow B 81 8 v K.length (UN K)
theorem OwnN.nil (B : Nat) (w : World) : OwnN B w (.slice none 0 0) [] := ⟨rfl, .inl ⟨rfl, rfl⟩⟩
theorem OwnN.same {B : Nat} {w w' : World} {v : Value} {K : List (Nd × Option Addr × Nat)} (h : OwnN B w v K) (k : ∀ b, v.ownBlock = some b → w'.heap[b]? = w.heap[b]?) : OwnN B w' v K := by
  refine ⟨h.1, ?_⟩
  rcases h.2 with h2 | ⟨g, cap, cur, hv, hg, hh, r⟩
  · exact .inl h2
  · exact .inr ⟨g, cap, cur, hv, hg, by rw [k g (by rw [hv]; rfl)]; exact hh, r⟩
theorem OwnN.block {B : Nat} {w : World} {v : Value} {K : List (Nd × Option Addr × Nat)} (h : OwnN B w v K) {b : Nat} (hb : v.ownBlock = some b) : B ≤ b ∧ ∃ cur, w.heap[b]? = some (.cells cur 81 (0, 0)) := by
  rcases h.2 with ⟨h1, _⟩ | ⟨g, cap, cur, hv, hg, hh, r⟩
  · rw [h1] at hb; cases hb
  · rw [hv] at hb
    have hb : some g = some b := hb
    simp only [Option.some.injEq] at hb
    subst hb
    exact ⟨hg, cur, hh⟩
theorem OwnN.keep {B : Nat} {w w' : World} {v : Value} {K : List (Nd × Option Addr × Nat)} (h : OwnN B w v K) (k : Keep w w') : OwnN B w' v K :=
  h.same (fun b hb => by obtain ⟨_, cur, hh⟩ := h.block hb; exact k.block b (Array.getElem?_eq_some_iff.1 hh).1)
theorem OwnN.shape {B : Nat} {w : World} {v : Value} {K : List (Nd × Option Addr × Nat)} (h : OwnN B w v K) : ∃ a c, v = .slice a K.length c ∧ K.length ≤ c ∧ ∀ j, j < K.length → ∃ b, a = some ⟨b, 0, none⟩ ∧ ∀ i u, i < 8 → (UN [K.getD j nt0])[i]? = some u → w.cell? ⟨b, j * 8 + i, none⟩ = some u := by
  rcases h.2 with ⟨h1, h2⟩ | ⟨g, cap, cur, hv, hg, hh, h1, h2, h3, h4⟩
  · exact ⟨none, 0, by rw [h1, h2], by omega, fun j hj => by omega⟩
  · refine ⟨some ⟨g, 0, none⟩, cap, hv, h1, ?_⟩
    intro j hj
    refine ⟨g, rfl, ?_⟩
    intro i u hi hu
    have e1 : cur.toList[j * 8 + i]? = (UN K)[j * 8 + i]? := by rw [← h4, List.getElem?_take, if_pos (by omega)]
    rw [cell_of_row w g _ cur 81 (0, 0) hh, ← hu, ← UN_get K j i hj hi, ← e1]; simp
theorem i40 : (Tryz.prog.info? 81).map (fun i => (i.zero, i.size, i.bytes)) = some (some (.agg #[.int .u8 0, .int .i64 0, .int .i64 0, .float .f64 0, .slice none 0 0, .int .u8 0, .int .i64 0, .int .i64 0]), 8, 80) := by kernel_rfl
theorem appN_sep (B : Nat) (w : World) (ty : Nat) (v : Value) (l : List (Nd × Option Addr × Nat)) (y : Nd × Option Addr × Nat) (hown : OwnN B w v l) (hB : B ≤ w.heap.size) (ad : Addr) (c : Nat) (hnews : ∀ j u, (UN [y])[j]? = some u → w.cell? (ad.add j) = some u) (hlen : l.length + 1 ≤ 1759218604441) :
    ∃ v' w', (Builtin.append_ #[46, 46] ty #[v, .slice (some ad) 1 c]).run Tryz.prog w = .ok v' w' ∧ OwnN B w' v' (l ++ [y]) ∧ w.grownBy w' v.ownBlock ∧ (v'.ownBlock = v.ownBlock ∨ v'.ownBlock = some w.heap.size) := by
  obtain ⟨i0, hi, hz0, hz1, hz2⟩ := info_parts i40
  have h1 : ∀ u ∈ UN [y], u.oneCell' = true := UN_one _
  have hl : (UN [y]).length = 1 * 8 := by rw [UN_length]; rfl
  obtain ⟨v', w', hr, h2, h3, -⟩ := run_append_own (P := Tryz.prog) w B 46 ty 81 i0 _ 8 80 Tryz.underlying46 hi hz0 hz1 hz2 rfl (by decide) v _ _ hown ad 1 c (UN [y]) hl hnews h1 (by simp only [maxLen]; omega) (by omega) hB
  refine ⟨v', w', hr, ?_, h3, ?_⟩
  · unfold OwnN; rw [List.length_append, UN_append]; exact h2
  rcases hown.2 with ⟨rfl, hn⟩ | ⟨g, cap, cur, rfl, hbg, hg, hnc, hcm, hcs, htake⟩
  · have e := run_append_nil (P := Tryz.prog) w 46 ty 81 i0 _ Tryz.underlying46 hi hz0 ad 1 c (UN [y]) (by rw [hz1]; exact hl) hnews (by omega) (by omega) (by rw [hz2]; omega)
    rw [hr] at e
    simp only [Result.ok.injEq] at e
    rw [e.1]
    exact .inr rfl
  · by_cases hroom : l.length + 1 ≤ cap
    · have e := run_append_room (P := Tryz.prog) w 46 ty 81 i0 Tryz.underlying46 hi g l.length cap cur hg ad 1 c (UN [y]) (by rw [hz1]; exact hl) hnews h1 hroom (by rw [hz1, UN_length]; simp; omega)
      rw [hr] at e
      simp only [Result.ok.injEq] at e
      rw [e.1]
      exact .inl rfl
    · have holds : ∀ j u, (UN l)[j]? = some u → w.cell? ((⟨g, 0, none⟩ : Addr).add j) = some u := World.ownsRow.cells (v := .slice (some ⟨g, 0, none⟩) l.length cap) hown (g := g) rfl
      have e := run_append_grow (P := Tryz.prog) w 46 ty 81 i0 _ Tryz.underlying46 hi hz0 ⟨g, 0, none⟩ l.length cap (UN l) (by rw [hz1, UN_length]) holds ad 1 c (UN [y]) (by rw [hz1]; exact hl) hnews (by omega) (by omega) (growslice_fits (by omega) (by rw [hz2]; omega))
      rw [hr] at e
      simp only [Result.ok.injEq] at e
      rw [e.1]
      exact .inr rfl
/-- append(l, node). -/
theorem wpList_appN (B : Nat) (w : World) {ops : Array Oper} {rest : List Oper} {o : Oper} {a : Act} {Q : Exit → Act → World → Prop} (hgd : o.guard = none) (s x : Operand)
    (hop : o.op = .call { callee := .builtin .append, args := #[s, x], argTypes := #[46, 46] }) (l : List (Nd × Option Addr × Nat)) (y : Nd × Option Addr × Nat) (v : Value) (hs : a.eval s = v) (hown : OwnN B w v l) (hB : B ≤ w.heap.size) (ad : Addr) (c : Nat) (hx : a.eval x = .slice (some ad) 1 c)
    (hnews : ∀ j u, (UN [y])[j]? = some u → w.cell? (ad.add j) = some u) (hlen : l.length + 1 ≤ 1759218604441)
    (hK : ∀ v' w', OwnN B w' v' (l ++ [y]) → w.grownBy w' v.ownBlock → (v'.ownBlock = v.ownBlock ∨ v'.ownBlock = some w.heap.size) → wpList Tryz.prog ops Q rest (a.put o.dst v') w') :
    wpList Tryz.prog ops Q (o :: rest) a w := by
  refine wpList_plain hgd fun K hK' => ?_
  obtain ⟨v', w', hrun, r1, r2, r3⟩ := appN_sep B w o.type v l y hown hB ad c hnews hlen
  unfold Oper.wp
  simp [execOp, hop, resolve, invoke, builtin, hs, hx, hrun, Result.andThen]
  exact hK' _ _ (hK v' w' r1 r2 r3)
end Go.Proofs.YtinjikoocegooaaGreatDoor
set_option linter.unusedVariables false
set_option linter.unusedSimpArgs false
namespace Go.Proofs.YtinjikoocegooaaGreatDoor
open Go.RowKit Go.Shelf
attribute [local go_sem] run_store_float
/-- What Nodes holds between two rounds. -/
structure NIt (L : List Nd) (w : World) (k : Nat) (v : Value) (wr : World) (K : List (Nd × Option Addr × Nat)) : Prop where
  len : K.length = k
  eq : ∀ j, j < k → (K.getD j nt0).1 = L.getD j nd0
  own : OwnN w.heap.size wr v K
  cats : ∀ j, j < k → OwnZ 3 w.heap.size wr (.slice (K.getD j nt0).2.1 (K.getD j nt0).1.cs.length (K.getD j nt0).2.2) (K.getD j nt0).1.cs
  ne : ∀ j, j < k → ∀ b, (Value.slice (K.getD j nt0).2.1 (K.getD j nt0).1.cs.length (K.getD j nt0).2.2).ownBlock = some b → v.ownBlock ≠ some b
  kp : Keep w wr
theorem getD_snocN (K : List (Nd × Option Addr × Nat)) (r : Nd × Option Addr × Nat) (j : Nat) : (K ++ [r]).getD j nt0 = if j = K.length then r else K.getD j nt0 := by
  by_cases h : j < K.length
  · rw [if_neg (by omega)]; simp [List.getD, List.getElem?_append, h]
  · by_cases h2 : j = K.length
    · subst h2; simp [List.getD]
    · rw [if_neg h2]; simp [List.getD, List.getElem?_append, h, show ¬ j - K.length = 0 by omega]
theorem newsN (W : World) (n : Nat) (hn : W.heap.size = n) (N : Nd) (va : Option Addr) (cc : Nat) : ∀ j u, (UN [(N, va, cc)])[j]? = some u → (W.alloc (Obj.cells #[Value.int .u8 N.kd, Value.int .i64 N.vl, Value.int .i64 N.ft, Value.float .f64 N.th, Value.slice va N.cs.length cc, Value.int .u8 N.ms, Value.int .i64 N.lf, Value.int .i64 N.rt] 81)).cell? ((⟨n, 0, none⟩ : Addr).add j) = some u := by
  subst hn
  intro j u hj
  rw [Go.WideShapes.add_plain, Nat.zero_add, cell_of_row _ _ _ _ 81 (0, 0) (heap_alloc_new W _)]
  simpa [UN] using hj
theorem NIt.step {L : List Nd} {w : World} {k : Nat} {v : Value} {wr : World} {K : List (Nd × Option Addr × Nat)} (hI : NIt L w k v wr K) {N : Nd} {va : Option Addr} {cc : Nat} {W : World} (hN : L.getD k nd0 = N) (kW : Keep wr W)
    (hO : OwnZ 3 (wr.heap.size + 1) W (.slice va N.cs.length cc) N.cs) {v' : Value} {w5 : World} (hO5 : OwnN w.heap.size w5 v' (K ++ [(N, va, cc)])) (g5 : W.grownBy w5 v.ownBlock) (hv : v'.ownBlock = v.ownBlock ∨ v'.ownBlock = some W.heap.size) :
    NIt L w (k + 1) v' w5 (K ++ [(N, va, cc)]) := by
  have hlt : ∀ b, v.ownBlock = some b → w.heap.size ≤ b ∧ b < wr.heap.size := by
    intro b hb
    obtain ⟨h1, cur, hc⟩ := hI.own.block hb
    exact ⟨h1, (Array.getElem?_eq_some_iff.1 hc).1⟩
  have hC : ∀ j, j < k → ∀ b, (Value.slice (K.getD j nt0).2.1 (K.getD j nt0).1.cs.length (K.getD j nt0).2.2).ownBlock = some b → b < wr.heap.size := by
    intro j hj b hb
    obtain ⟨h1, cur, hc⟩ := (hI.cats j hj).block hb
    exact (Array.getElem?_eq_some_iff.1 hc).1
  have hN' : ∀ b, (Value.slice va N.cs.length cc).ownBlock = some b → wr.heap.size + 1 ≤ b ∧ b < W.heap.size := by
    intro b hb
    obtain ⟨h1, cur, hc⟩ := hO.block hb
    exact ⟨h1, (Array.getElem?_eq_some_iff.1 hc).1⟩
  have hle := kW.le
  have hle0 := hI.kp.le
  have hbl : ∀ b, b < W.heap.size → v.ownBlock ≠ some b → w5.heap[b]? = W.heap[b]? := fun b hb hne => g5.block b hb (fun e => hne e.symm)
  refine ⟨by rw [List.length_append, hI.len]; rfl, ?_, hO5, ?_, ?_, ?_⟩
  · intro j hj
    rw [getD_snocN, hI.len]
    by_cases e : j = k
    · rw [if_pos e, e, hN]
    · rw [if_neg e]; exact hI.eq j (by omega)
  · intro j hj
    rw [getD_snocN, hI.len]
    by_cases e : j = k
    · rw [if_pos e]
      refine (hO.mono (by omega)).same ?_
      intro b hb
      obtain ⟨h1, h2⟩ := hN' b hb
      exact hbl b h2 (fun e => by have := hlt b e; omega)
    · rw [if_neg e]
      have hj' : j < k := by omega
      refine (hI.cats j hj').same ?_
      intro b hb
      have h1 := hC j hj' b hb
      rw [hbl b (by omega) (hI.ne j hj' b hb), kW.block b h1]
  · intro j hj
    rw [getD_snocN, hI.len]
    by_cases e : j = k
    · rw [if_pos e]
      intro b hb e2
      obtain ⟨h1, h2⟩ := hN' b hb
      rcases hv with h | h
      · rw [h] at e2; have := hlt b e2; omega
      · rw [h] at e2; simp only [Option.some.injEq] at e2; omega
    · rw [if_neg e]
      have hj' : j < k := by omega
      intro b hb e2
      have h1 := hC j hj' b hb
      rcases hv with h | h
      · rw [h] at e2; exact hI.ne j hj' b hb e2
      · rw [h] at e2; simp only [Option.some.injEq] at e2; omega
  · exact Below.grown (hI.kp.trans kW) g5 (by omega) (fun b hb => (hlt b hb).1)
end Go.Proofs.YtinjikoocegooaaGreatDoor
set_option linter.unusedVariables false
set_option linter.unusedSimpArgs false
namespace Go.Proofs.YtinjikoocegooaaGreatDoor
open Go.RowKit Go.Shelf
/-- A copied row of nodes: all that it reaches lies in blocks of S. -/
def CT (w : World) (S : Nat → Prop) (a : Option Addr) (c : Nat) (L : List Nd) : Prop :=
  ∃ K, K.length = L.length ∧ (∀ j, j < L.length → (K.getD j nt0).1 = L.getD j nd0) ∧ OwnN 0 w (.slice a L.length c) K ∧
    (∀ j, j < L.length → OwnZ 3 0 w (.slice (K.getD j nt0).2.1 (K.getD j nt0).1.cs.length (K.getD j nt0).2.2) (K.getD j nt0).1.cs) ∧
    (∀ b, (Value.slice a L.length c).ownBlock = some b → S b) ∧
    (∀ j, j < L.length → ∀ b, (Value.slice (K.getD j nt0).2.1 (K.getD j nt0).1.cs.length (K.getD j nt0).2.2).ownBlock = some b → S b)
theorem CT.same {w w' : World} {S S' : Nat → Prop} {a : Option Addr} {c : Nat} {L : List Nd} (h : CT w S a c L) (hs : ∀ b, S b → w'.heap[b]? = w.heap[b]?) (hS : ∀ b, S b → S' b) : CT w' S' a c L := by
  obtain ⟨K, h1, h2, h3, h4, h5, h6⟩ := h
  exact ⟨K, h1, h2, h3.same (fun b hb => hs b (h5 b hb)), fun j hj => (h4 j hj).same (fun b hb => hs b (h6 j hj b hb)), fun b hb => hS b (h5 b hb), fun j hj b hb => hS b (h6 j hj b hb)⟩
theorem OwnN.mono {B B' : Nat} {w : World} {v : Value} {l : List (Nd × Option Addr × Nat)} (h : OwnN B w v l) (hB : B' ≤ B) : OwnN B' w v l := by
  refine ⟨h.1, ?_⟩
  rcases h.2 with h2 | ⟨g, cap, cur, hv, hg, r⟩
  · exact .inl h2
  · exact .inr ⟨g, cap, cur, hv, by omega, r⟩
theorem NIt.ct {L : List Nd} {w wr : World} {v : Value} {K : List (Nd × Option Addr × Nat)} (h : NIt L w L.length v wr K) : ∃ a c, v = .slice a L.length c ∧ L.length ≤ c ∧ CT wr (fun b => w.heap.size ≤ b ∧ b < wr.heap.size) a c L := by
  obtain ⟨a, c, e, hc, -⟩ := h.own.shape
  rw [h.len] at e hc
  refine ⟨a, c, e, hc, K, h.len, h.eq, by rw [← e]; exact h.own.mono (Nat.zero_le _), fun j hj => (h.cats j hj).mono (Nat.zero_le _), ?_, ?_⟩
  · intro b hb
    rw [← e] at hb
    obtain ⟨h1, cur, h2⟩ := h.own.block hb
    exact ⟨h1, (Array.getElem?_eq_some_iff.1 h2).1⟩
  · intro j hj b hb
    obtain ⟨h1, cur, h2⟩ := (h.cats j hj).block hb
    exact ⟨h1, (Array.getElem?_eq_some_iff.1 h2).1⟩
theorem CT.rdN {w w0 : World} {S : Nat → Prop} {a a0 : Option Addr} {c : Nat} {L : List Nd} (h : CT w S a c L) (h0 : RdN w0 a0 L) : RdN w a L := by
  obtain ⟨K, h1, h2, h3, h4, h5, h6⟩ := h
  intro j hj
  obtain ⟨a', c', e, hc, hr⟩ := h3.shape
  simp only [Value.slice.injEq] at e
  obtain ⟨rfl, -, rfl⟩ := e
  obtain ⟨b, rfl, hb⟩ := hr j (by omega)
  obtain ⟨b0, o0, ca0, cp0, -, hn0⟩ := h0 j hj
  have hcs := h4 j hj
  have he := h2 j hj
  obtain ⟨ca, hca⟩ : ∃ ca, (K.getD j nt0).2.1 = ca := ⟨_, rfl⟩
  obtain ⟨cp, hcp⟩ : ∃ cp, (K.getD j nt0).2.2 = cp := ⟨_, rfl⟩
  rw [he, hca, hcp] at hcs
  have hq : K.getD j nt0 = (L.getD j nd0, ca, cp) := by rw [← he, ← hca, ← hcp]
  rw [hq] at hb
  obtain ⟨a2, c2, e2, hc2, hr2⟩ := hcs.shape
  simp only [Value.slice.injEq] at e2
  obtain ⟨rfl, -, rfl⟩ := e2
  refine ⟨b, 0, ca, cp, rfl, ?_⟩
  rw [Nat.zero_add]
  exact ⟨hb 0 _ (by omega) rfl, hb 1 _ (by omega) rfl, hb 2 _ (by omega) rfl, hb 3 _ (by omega) rfl, hb 4 _ (by omega) rfl, hb 5 _ (by omega) rfl, hb 6 _ (by omega) rfl, hb 7 _ (by omega) rfl, hr2, hc2, hn0.sz, hn0.ok⟩
/-- Trees as cells. -/
def UT : List (Int × Option Addr × Nat × Nat) → List Value
  | [] => []
  | r :: L => .int .i64 r.1 :: .slice r.2.1 r.2.2.1 r.2.2.2 :: UT L
theorem UT_append : ∀ L M, UT (L ++ M) = UT L ++ UT M
  | [], _ => rfl
  | r :: L, M => by simp [UT, UT_append L M]
theorem UT_length : ∀ L, (UT L).length = L.length * 2
  | [] => rfl
  | r :: L => by simp [UT, UT_length L]; omega
theorem UT_one : ∀ L, ∀ u ∈ UT L, u.oneCell' = true
  | [], u, h => by simp [UT] at h
  | r :: L, u, h => by
    simp only [UT, List.mem_cons] at h
    rcases h with rfl | rfl | h
    all_goals first | rfl | exact UT_one L u h
abbrev tt0 : Int × Option Addr × Nat × Nat := (0, none, 0, 0)
theorem UT_get : ∀ (K : List (Int × Option Addr × Nat × Nat)) (j i : Nat), j < K.length → i < 2 → (UT K)[j * 2 + i]? = (UT [K.getD j tt0])[i]?
  | [], j, i, h, _ => by simp at h
  | r :: K, 0, i, _, hi => by
    simp only [Nat.zero_mul, Nat.zero_add, List.getD_cons_zero]
    match i, hi with
    | 0, _ => rfl
    | 1, _ => rfl
  | r :: K, j + 1, i, h, hi => by
    have := UT_get K j i (by simpa using h) hi
    rw [show (j + 1) * 2 + i = (j * 2 + i) + 1 + 1 by omega]
    simp only [UT, List.getElem?_cons_succ, List.getD_cons_succ]
    exact this
def OwnT (B : Nat) (w : World) (v : Value) (K : List (Int × Option Addr × Nat × Nat)) : Prop := w.ownsRow B 48 2 v K.length (UT K)
theorem OwnT.nil (B : Nat) (w : World) : OwnT B w (.slice none 0 0) [] := ⟨rfl, .inl ⟨rfl, rfl⟩⟩
theorem OwnT.same {B : Nat} {w w' : World} {v : Value} {K : List (Int × Option Addr × Nat × Nat)} (h : OwnT B w v K) (k : ∀ b, v.ownBlock = some b → w'.heap[b]? = w.heap[b]?) : OwnT B w' v K := by
  refine ⟨h.1, ?_⟩
  rcases h.2 with h2 | ⟨g, cap, cur, hv, hg, hh, r⟩
  · exact .inl h2
  · exact .inr ⟨g, cap, cur, hv, hg, by rw [k g (by rw [hv]; rfl)]; exact hh, r⟩
theorem OwnT.block {B : Nat} {w : World} {v : Value} {K : List (Int × Option Addr × Nat × Nat)} (h : OwnT B w v K) {b : Nat} (hb : v.ownBlock = some b) : B ≤ b ∧ ∃ cur, w.heap[b]? = some (.cells cur 48 (0, 0)) := by
  rcases h.2 with ⟨h1, _⟩ | ⟨g, cap, cur, hv, hg, hh, r⟩
  · rw [h1] at hb; cases hb
  · rw [hv] at hb
    have hb : some g = some b := hb
    simp only [Option.some.injEq] at hb
    subst hb
    exact ⟨hg, cur, hh⟩
theorem OwnT.keep {B : Nat} {w w' : World} {v : Value} {K : List (Int × Option Addr × Nat × Nat)} (h : OwnT B w v K) (k : Keep w w') : OwnT B w' v K :=
  h.same (fun b hb => by obtain ⟨_, cur, hh⟩ := h.block hb; exact k.block b (Array.getElem?_eq_some_iff.1 hh).1)
theorem OwnT.shape {B : Nat} {w : World} {v : Value} {K : List (Int × Option Addr × Nat × Nat)} (h : OwnT B w v K) : ∃ a c, v = .slice a K.length c ∧ K.length ≤ c ∧ ∀ j, j < K.length → ∃ b, a = some ⟨b, 0, none⟩ ∧ ∀ i u, i < 2 → (UT [K.getD j tt0])[i]? = some u → w.cell? ⟨b, j * 2 + i, none⟩ = some u := by
  rcases h.2 with ⟨h1, h2⟩ | ⟨g, cap, cur, hv, hg, hh, h1, h2, h3, h4⟩
  · exact ⟨none, 0, by rw [h1, h2], by omega, fun j hj => by omega⟩
  · refine ⟨some ⟨g, 0, none⟩, cap, hv, h1, ?_⟩
    intro j hj
    refine ⟨g, rfl, ?_⟩
    intro i u hi hu
    have e1 : cur.toList[j * 2 + i]? = (UT K)[j * 2 + i]? := by rw [← h4, List.getElem?_take, if_pos (by omega)]
    rw [cell_of_row w g _ cur 48 (0, 0) hh, ← hu, ← UT_get K j i hj hi, ← e1]; simp
theorem i24 : (Tryz.prog.info? 48).map (fun i => (i.zero, i.size, i.bytes)) = some (some (.agg #[.int .i64 0, .slice none 0 0]), 2, 32) := by kernel_rfl
theorem appT_sep (B : Nat) (w : World) (ty : Nat) (v : Value) (l : List (Int × Option Addr × Nat × Nat)) (y : Int × Option Addr × Nat × Nat) (hown : OwnT B w v l) (hB : B ≤ w.heap.size) (ad : Addr) (c : Nat) (hnews : ∀ j u, (UT [y])[j]? = some u → w.cell? (ad.add j) = some u) (hlen : l.length + 1 ≤ 4398046511104) :
    ∃ v' w', (Builtin.append_ #[24, 24] ty #[v, .slice (some ad) 1 c]).run Tryz.prog w = .ok v' w' ∧ OwnT B w' v' (l ++ [y]) ∧ w.grownBy w' v.ownBlock ∧ (v'.ownBlock = v.ownBlock ∨ v'.ownBlock = some w.heap.size) := by
  obtain ⟨i0, hi, hz0, hz1, hz2⟩ := info_parts i24
  have h1 : ∀ u ∈ UT [y], u.oneCell' = true := UT_one _
  have hl : (UT [y]).length = 1 * 2 := by rw [UT_length]; rfl
  obtain ⟨v', w', hr, h2, h3, -⟩ := run_append_own (P := Tryz.prog) w B 24 ty 48 i0 _ 2 32 Tryz.underlying24 hi hz0 hz1 hz2 rfl (by decide) v _ _ hown ad 1 c (UT [y]) hl hnews h1 (by simp only [maxLen]; omega) (by omega) hB
  refine ⟨v', w', hr, ?_, h3, ?_⟩
  · unfold OwnT; rw [List.length_append, UT_append]; exact h2
  rcases hown.2 with ⟨rfl, hn⟩ | ⟨g, cap, cur, rfl, hbg, hg, hnc, hcm, hcs, htake⟩
  · have e := run_append_nil (P := Tryz.prog) w 24 ty 48 i0 _ Tryz.underlying24 hi hz0 ad 1 c (UT [y]) (by rw [hz1]; exact hl) hnews (by omega) (by omega) (by rw [hz2]; omega)
    rw [hr] at e
    simp only [Result.ok.injEq] at e
    rw [e.1]
    exact .inr rfl
  · by_cases hroom : l.length + 1 ≤ cap
    · have e := run_append_room (P := Tryz.prog) w 24 ty 48 i0 Tryz.underlying24 hi g l.length cap cur hg ad 1 c (UT [y]) (by rw [hz1]; exact hl) hnews h1 hroom (by rw [hz1, UT_length]; simp; omega)
      rw [hr] at e
      simp only [Result.ok.injEq] at e
      rw [e.1]
      exact .inl rfl
    · have holds : ∀ j u, (UT l)[j]? = some u → w.cell? ((⟨g, 0, none⟩ : Addr).add j) = some u := World.ownsRow.cells (v := .slice (some ⟨g, 0, none⟩) l.length cap) hown (g := g) rfl
      have e := run_append_grow (P := Tryz.prog) w 24 ty 48 i0 _ Tryz.underlying24 hi hz0 ⟨g, 0, none⟩ l.length cap (UT l) (by rw [hz1, UT_length]) holds ad 1 c (UT [y]) (by rw [hz1]; exact hl) hnews (by omega) (by omega) (growslice_fits (by omega) (by rw [hz2]; omega))
      rw [hr] at e
      simp only [Result.ok.injEq] at e
      rw [e.1]
      exact .inr rfl
/-- Texts as cells. -/
def US (l : List ByteArray) : List Value := l.map (fun x => Value.string x)
def OwnS (B : Nat) (w : World) (v : Value) (l : List ByteArray) : Prop := w.ownsRow B 9 1 v l.length (US l)
def RdS (w : World) (a : Option Addr) (l : List ByteArray) : Prop :=
  ∀ j, j < l.length → ∃ b o, a = some ⟨b, o, none⟩ ∧ w.cell? ⟨b, o + j, none⟩ = some (.string (l.getD j ByteArray.empty))
theorem RdS.keep {w w' : World} {a : Option Addr} {l : List ByteArray} (h : RdS w a l) (k : Keep w w') : RdS w' a l := by
  intro j hj
  obtain ⟨b, o, e, hc⟩ := h j hj
  exact ⟨b, o, e, k.cell hc⟩
theorem US_get (l : List ByteArray) (j : Nat) (h : j < l.length) : (US l)[j]? = some (.string (l.getD j ByteArray.empty)) := by simp [US, List.getD, h]
theorem OwnS.nil (B : Nat) (w : World) : OwnS B w (.slice none 0 0) [] := ⟨rfl, .inl ⟨rfl, rfl⟩⟩
theorem OwnS.shape {B : Nat} {w : World} {v : Value} {l : List ByteArray} (h : OwnS B w v l) : ∃ a c, v = .slice a l.length c ∧ l.length ≤ c ∧ RdS w a l := by
  rcases h.2 with ⟨h1, h2⟩ | ⟨g, cap, cur, hv, hg, hh, h1, h2, h3, h4⟩
  · exact ⟨none, 0, by rw [h1, h2], by omega, fun j hj => by omega⟩
  · refine ⟨some ⟨g, 0, none⟩, cap, hv, h1, ?_⟩
    intro j hj
    refine ⟨g, 0, rfl, ?_⟩
    have e1 : cur.toList[j]? = (US l)[j]? := by rw [← h4, List.getElem?_take, if_pos (by omega)]
    rw [Nat.zero_add, cell_of_row w g _ cur 9 (0, 0) hh, ← US_get l j hj, ← e1]; simp
theorem i9 : (Tryz.prog.info? 9).map (fun i => (i.zero, i.size, i.bytes)) = some (some (.string ByteArray.empty), 1, 16) := by kernel_rfl
/-- append(nil, texts...). -/
theorem wpList_copyS {w : World} {ops : Array Oper} {rest : List Oper} {o : Oper} {a : Act} {Q : Exit → Act → World → Prop} (hgd : o.guard = none) (s x : Operand)
    (ho : o.op = .call { callee := .builtin .append, args := #[s, x], argTypes := #[22, 22] }) (l : List ByteArray) (ad : Option Addr) (c : Nat) (hs : a.eval s = .slice none 0 0)
    (hx : a.eval x = .slice ad l.length c) (hr : RdS w ad l) (hlen : l.length ≤ 8796093022208)
    (hK : ∀ v w1, OwnS w.heap.size w1 v l → Keep w w1 → wpList Tryz.prog ops Q rest (a.put o.dst v) w1) :
    wpList Tryz.prog ops Q (o :: rest) a w := by
  rcases ad with _ | ad
  · obtain rfl : l = [] := by
      by_cases h : l = []
      · exact h
      · obtain ⟨b, o, e, -⟩ := hr 0 (List.length_pos_iff.2 h); cases e
    refine wpList_plain hgd fun K hK' => ?_
    have hrun : (Builtin.append_ #[22, 22] o.type #[.slice none 0 0, .slice none 0 c]).run Tryz.prog w = .ok (.slice none 0 0) w := by
      go_simp
    unfold Oper.wp
    simp [execOp, ho, resolve, invoke, builtin, hs, hx, hrun, Result.andThen]
    exact hK' _ _ (hK _ w (OwnS.nil _ _) (Keep.refl w))
  · obtain ⟨i0, hi, hz0, hz1, hz2⟩ := info_parts i9
    refine wpList_append_own _ hgd s x 22 ho w.heap.size 9 i0 _ 1 16 Tryz.underlying22 hi hz0 hz1 hz2 rfl (by decide) _ _ _ hs (OwnS.nil w.heap.size w) ad l.length c (US l) hx (by simp [US]) ?_ ?_ ?_ ?_ ?_ ?_
    · intro j u hj
      have hjl : j < l.length := by have := (List.getElem?_eq_some_iff.1 hj).1; simpa [US] using this
      rw [US_get l j hjl] at hj
      obtain ⟨b', o', e, hc⟩ := hr j hjl
      simp only [Option.some.injEq] at e
      subst e
      rw [Addr.add_lit, hc, hj]
    · intro u hu; obtain ⟨_, _, rfl⟩ := List.mem_map.1 hu; rfl
    · simp only [maxLen, List.length_nil]; omega
    · simp only [List.length_nil]; omega
    · exact Nat.le_refl _
    · intro v' w1 h1 h2 _
      refine hK v' w1 ?_ ?_
      · unfold OwnS; simpa [US] using h1
      · refine Below.grown (Keep.refl w) h2 (Nat.le_refl _) ?_
        intro k hk'
        cases hk'
/-- append(nil, sums...), whether they are nil or not. -/
theorem wpList_copyB {w : World} {ops : Array Oper} {rest : List Oper} {o : Oper} {a : Act} {Q : Exit → Act → World → Prop} (hgd : o.guard = none) (s x : Operand)
    (ho : o.op = .call { callee := .builtin .append, args := #[s, x], argTypes := #[23, 23] }) (l : List Int) (ad : Option Addr) (c : Nat) (hs : a.eval s = .slice none 0 0)
    (hx : a.eval x = .slice ad l.length c) (hr : RdI w ad l) (hlen : l.length ≤ 17592186044416)
    (hK : ∀ v w1, OwnZ 2 w.heap.size w1 v l → Keep w w1 → wpList Tryz.prog ops Q rest (a.put o.dst v) w1) :
    wpList Tryz.prog ops Q (o :: rest) a w := by
  rcases ad with _ | ad
  · obtain rfl : l = [] := by
      by_cases h : l = []
      · exact h
      · obtain ⟨b, o, e, -⟩ := hr 0 (List.length_pos_iff.2 h); cases e
    refine wpList_plain hgd fun K hK' => ?_
    have hrun : (Builtin.append_ #[23, 23] o.type #[.slice none 0 0, .slice none 0 c]).run Tryz.prog w = .ok (.slice none 0 0) w := by
      go_simp
    unfold Oper.wp
    simp [execOp, ho, resolve, invoke, builtin, hs, hx, hrun, Result.andThen]
    exact hK' _ _ (hK _ w (OwnZ.nil _ _ _) (Keep.refl w))
  · exact wpList_copyZ hgd s x ho l ad c hs hx hr hlen hK
end Go.Proofs.YtinjikoocegooaaGreatDoor

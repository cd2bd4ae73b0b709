import Derived.Test.YtbchinfmdioijaaU4
import Derived.Test.YtbchinfmdioijaaMath3
import Derived.Test.YtbchinfmdioijaaRJ
set_option linter.unusedVariables false
set_option linter.unusedSimpArgs false
namespace Go.Proofs.Ytbchinfmdioijaa
open Go.RowKit Go.Shelf
attribute [local go_sem] Oper.semAt_some
/-- A stretch that ends in one way. -/
theorem wpIn_to {F : Fence} {n : Nat} {P : Program} {c : Code} {Q : Exit → Act → World → Prop} {a : Act} {w : World} (A : Act) (Wd : World) (h1 : c.wpIn F n P (fun e a' w' => e = .normal ∧ a' = A ∧ w' = Wd) a w) (h2 : Q .normal A Wd) : c.wpIn F n P Q a w :=
  wpIn_mono h1 (by rintro e a' w' ⟨rfl, rfl, rfl⟩; exact h2)
theorem wrap_small {n : Int} (h1 : 0 ≤ n) (h2 : n < 9223372036854775808) : IntKind.i64.wrap n = n := by
  rw [IntKind.wrap_i64]; omega
/-- What the operations of Depth's assignment yield. -/
def dpV (A N b p ai bi y X : Nat) : Nat → Value
  | 0 => .slice (some ⟨A, 0, none⟩) N N
  | 1 => .pointer (some ⟨b, p, none⟩)
  | 2 => .pointer (some ⟨b, p, none⟩)
  | 3 => .pointer (some ⟨b, p + 6, none⟩)
  | 4 => .int .i64 (ai : Nat)
  | 5 => .slice (some ⟨A, 0, none⟩) N N
  | 6 => .pointer (some ⟨b, p, none⟩)
  | 7 => .pointer (some ⟨b, p, none⟩)
  | 8 => .pointer (some ⟨b, p + 7, none⟩)
  | 9 => .int .i64 (bi : Nat)
  | 10 => .slice (some ⟨A, 0, none⟩) N N
  | 11 => .int .i64 (y : Nat)
  | 12 => .pointer (some ⟨A, y, none⟩)
  | 13 => .int .i64 (X : Nat)
  | 14 => .int .i64 ((X : Int) + 1)
  | 15 => .slice (some ⟨A, 0, none⟩) N N
  | 16 => .int .i64 (y : Nat)
  | 17 => .pointer (some ⟨A, y, none⟩)
  | 18 => .int .i64 (X : Nat)
  | 19 => .int .i64 ((X : Int) + 1)
  | 20 => .pointer (some ⟨A, ai, none⟩)
  | 22 => .pointer (some ⟨A, bi, none⟩)
  | _ => undef
def dpW (W : World) (A ai bi X : Nat) (l : Array Bool) : World :=
  if l.getD 23 false = true then (W.setCell ⟨A, ai, none⟩ (.int .i64 ((X : Int) + 1))).setCell ⟨A, bi, none⟩ (.int .i64 ((X : Int) + 1)) else if l.getD 21 false = true then W.setCell ⟨A, ai, none⟩ (.int .i64 ((X : Int) + 1)) else W
def dpD : List Nat := [20, 14, 0, 1, 2, 3, 4, 9, 10, 11, 12, 13, 18]
/-- What holds between two of them. -/
def dpI (W : World) (A N b p ai bi y X : Nat) (FR : (Nat → Value) → Act) (l : Array Bool) (Ac : Act) (w : World) : Prop :=
  l.size = 24 ∧ (∃ x : Nat → Value, Ac = FR x ∧ ∀ j, j < 23 → j ≠ 21 → l.getD j false = true → x j = dpV A N b p ai bi y X j) ∧ w = dpW W A ai bi X l ∧ (l.getD 21 false = true → ∀ j ∈ dpD, l.getD j false = true) ∧ (l.getD 23 false = true → ∀ j, j < 23 → l.getD j false = true)
theorem dpW_set {W : World} {A ai bi X : Nat} {l : Array Bool} {i : Nat} (h1 : i ≠ 21) (h2 : i ≠ 23) : dpW W A ai bi X (l.setIfInBounds i true) = dpW W A ai bi X l := by
  unfold dpW
  rw [getD_set_ne false h1, getD_set_ne false h2]
theorem dpW_none {W : World} {A ai bi X : Nat} {l : Array Bool} (h1 : l.getD 21 false = false) (h2 : l.getD 23 false = false) : dpW W A ai bi X l = W := by
  unfold dpW; rw [h1, h2]; rfl
theorem dpW_one {W : World} {A ai bi X : Nat} {l : Array Bool} (h1 : l.getD 21 false = true) (h2 : l.getD 23 false = false) : dpW W A ai bi X l = W.setCell ⟨A, ai, none⟩ (.int .i64 ((X : Int) + 1)) := by
  unfold dpW; rw [h1, h2]; rfl
theorem dpW_two {W : World} {A ai bi X : Nat} {l : Array Bool} (h2 : l.getD 23 false = true) : dpW W A ai bi X l = (W.setCell ⟨A, ai, none⟩ (.int .i64 ((X : Int) + 1))).setCell ⟨A, bi, none⟩ (.int .i64 ((X : Int) + 1)) := by
  unfold dpW; rw [h2]; rfl
theorem set_same {l : Array Bool} {i : Nat} (h : i < l.size) : (l.setIfInBounds i true).getD i false = true := by simp [Array.getD, h]
theorem dpI.next {W : World} {A N b p ai bi y X : Nat} {FR : (Nat → Value) → Act} {l : Array Bool} {x : Nat → Value} {A' : Act} {w' : World} {i : Nat} {v : Value} (hs : l.size = 24) (hx : ∀ j, j < 23 → j ≠ 21 → l.getD j false = true → x j = dpV A N b p ai bi y X j) (h21 : l.getD 21 false = true → ∀ j ∈ dpD, l.getD j false = true) (h23 : l.getD 23 false = true → ∀ j, j < 23 → l.getD j false = true)
    (hi : i < 24) (hA : A' = FR (fun j => if j = i then v else x j)) (hv : i < 23 → i ≠ 21 → v = dpV A N b p ai bi y X i) (hw : w' = dpW W A ai bi X (l.setIfInBounds i true)) (n21 : i = 21 → ∀ j ∈ dpD, l.getD j false = true) (n23 : i = 23 → ∀ j, j < 23 → l.getD j false = true) : dpI W A N b p ai bi y X FR (l.setIfInBounds i true) A' w' := by
  have up : ∀ j, l.getD j false = true → (l.setIfInBounds i true).getD j false = true := fun j hj => by
    by_cases e : i = j
    · subst e; exact set_same (by omega)
    · rw [getD_set_ne false e]; exact hj
  refine ⟨by simpa using hs, ⟨_, hA, ?_⟩, hw, ?_, ?_⟩
  · intro j h1 h2 hj
    by_cases e : j = i
    · subst e; rw [if_pos rfl]; exact hv h1 h2
    · rw [if_neg e]
      rcases listed_set hj with e2 | hj
      · exact absurd e2 e
      · exact hx j h1 h2 hj
  · intro h j hj
    rcases listed_set h with e | h
    · exact up j (n21 e.symm j hj)
    · exact up j (h21 h j hj)
  · intro h j hj
    rcases listed_set h with e | h
    · exact up j (n23 e.symm j hj)
    · exact up j (h23 h j hj)
/-- What Depth holds between two rounds. -/
structure DepI (L : List Nd) (A : Nat) (w3 : World) (pre : List Nat) (T : Nat → Prop) (W : World) : Prop where
  row : RowI W A (dfold (shp L) L.length pre).1
  bx : W.heap[A + 1]? = some (.cells #[.slice (some ⟨A, 0, none⟩) L.length L.length] 29 (0, 0))
  gr : W.heap[A + 1 + 1]? = some (.cells #[.int .i64 ((dfold (shp L) L.length pre).2 : Nat)] 3 (0, 0))
  tb : ∀ g, T g → A + 3 ≤ g
  be : Below A w3 W
  sz : A + 4 ≤ W.heap.size
theorem DepI.st {L : List Nd} {A : Nat} {w3 : World} {pre : List Nat} {T : Nat → Prop} {W B : World} (h : DepI L A w3 pre T W) (hst : Stp T W B) : DepI L A w3 pre (more T W B) B := by
  obtain ⟨q1, q2, q3, q4, q5, q6⟩ := h
  have kp : ∀ g, g < A + 3 → B.heap[g]? = W.heap[g]? := fun g hg => hst.block g (by omega) (fun h => by have := q4 g h; omega)
  refine ⟨by unfold RowI; rw [kp _ (by omega)]; exact q1, by rw [kp _ (by omega)]; exact q2, by rw [kp _ (by omega)]; exact q3, ?_, ?_, by have := hst.size; omega⟩
  · rintro g (h | h)
    · exact q4 g h
    · omega
  · exact ⟨hst.os.trans q5.os, hst.tape.trans q5.tape, hst.output.trans q5.output, by have := hst.size; have := q5.size; omega, fun g hg => (kp g (by omega)).trans (q5.block g hg)⟩
theorem DepI.put {L : List Nd} {A : Nat} {w3 : World} {pre : List Nat} {T : Nat → Prop} {W : World} {r : Nat} {o' : Obj} (h : DepI L A w3 pre T W) (h1 : A + 4 ≤ r) : DepI L A w3 pre T (W.putObj r o') := by
  obtain ⟨q1, q2, q3, q4, q5, q6⟩ := h
  have kp : ∀ g, g < A + 3 → (W.putObj r o').heap[g]? = W.heap[g]? := fun g hg => World.putObj_heap_other (by omega)
  refine ⟨by unfold RowI; rw [kp _ (by omega)]; exact q1, by rw [kp _ (by omega)]; exact q2, by rw [kp _ (by omega)]; exact q3, q4, ?_, by simpa using q6⟩
  exact ⟨q5.os, q5.tape, q5.output, by simpa using q5.size, fun g hg => (kp g (by omega)).trans (q5.block g hg)⟩
set_option maxRecDepth 100000 in
set_option maxHeartbeats 2000000 in
theorem Depth_in (n : Nat) (hn : 3 ≤ n) (a : Option Addr) (cap : Nat) (out : Int) (L : List Nd) (hLn : L.length ≤ 2199023255552) (hE : shE L = 0) (w : World) (hrd : RdN w a L) :
    CallsIn Fence.wide n Try.prog 17 #[.agg #[.int .i64 out, .slice a L.length cap]] w fun e w' => e = .returned (.tuple #[.int .i64 (dep (shp L) L.length : Nat), .int .i64 0]) ∧ Below w.heap.size w w' := by
  have hR := shE_rgt hE
  have h1 : 1 ≤ n := by omega
  have hlen : L.length ≤ 17592186044416 := by omega
  have hS := fun (wx : World) (k : Keep w wx) => Shape_in (n - 1) wx a cap out L hLn (hrd.keep k)
  rw [hE] at hS
  refine callsIn_of_wp_marks Try.func17 rfl trivial ?_ rfl
  simp only [Try.ntmps17, List.size_toArray, List.length_cons, List.length_nil, Nat.reduceAdd, Nat.reduceSub, Array.replicate_succ, Array.replicate_zero, List.push_toArray, List.append_toArray, List.nil_append, List.cons_append]
  have k0 : Keep w (w.alloc (Obj.cells #[Value.int IntKind.i64 out, Value.slice a L.length cap] 24)) := (Keep.refl w).alloc _
  have c1 : (w.alloc (Obj.cells #[Value.int IntKind.i64 out, Value.slice a L.length cap] 24)).cell? ⟨w.heap.size, 1, none⟩ = some (.slice a L.length cap) := by
    rw [cell_of_row _ _ 1 _ 24 (0, 0) (heap_alloc_new w _)]; rfl
  have hSz : (w.alloc (Obj.cells #[Value.int IntKind.i64 out, Value.slice a L.length cap] 24)).heap.size = w.heap.size + 1 := by simp
  have hS1 := hS _ k0
  gi_wp2_with fail
  generalize w.alloc _ = w1 at k0 c1 hS1 hSz ⊢
  refine ⟨trivial, ?_⟩
  refine hS1.mono ?_
  rintro e w2 ⟨rfl, k2⟩
  have c1 := k2.cell c1
  have k02 := k0.trans k2
  have z2 : w.heap.size + 1 ≤ w2.heap.size := by have := k2.le; omega
  clear hS hS1 k2 hSz
  have c1A := fun o1 o2 o3 => ((((Keep.refl w2).alloc o1).alloc o2).alloc o3).cell c1
  gi_wp2_with (first | (gi_at_make; refine wpListIn_makeI _ rfl _ _ rfl _ _ _ _ L.length rfl rfl rfl rfl hlen ?_) | (refine ⟨trivial, ?_⟩; gi_at_call 51; refine (reached_in (n - 1) _ _ _ _).mono ?_; rintro e w' ⟨rfl, rfl⟩))
  have S3 : ∃ w3, ((((w2.alloc (Obj.cells (UI (List.replicate L.length 0)).toArray 3)).alloc (Obj.cells #[Value.slice (some ⟨w2.heap.size, 0, none⟩) L.length L.length] 29)).alloc (Obj.cells #[Value.int IntKind.i64 0] 3)).alloc (Obj.cells #[Value.slice a L.length cap] 22)) = w3 ∧ DepI L w2.heap.size w2 [] (fun g => g = w2.heap.size + 3) w3 ∧ w3.heap.size = w2.heap.size + 4 ∧ w3.cell? ⟨w2.heap.size + 3, 0, none⟩ = some (.slice a L.length cap) := by
    refine ⟨_, rfl, ⟨?_, ?_, ?_, fun g hg => by omega, ?_, by simp⟩, by simp, ?_⟩
    · unfold RowI
      exact (Below.heap_alloc _ _ _ (by simp; omega)).trans ((Below.heap_alloc _ _ _ (by simp; omega)).trans ((Below.heap_alloc _ _ _ (by simp)).trans (heap_alloc_new w2 _)))
    · have := heap_alloc_new (w2.alloc (Obj.cells (UI (List.replicate L.length 0)).toArray 3)) (Obj.cells #[Value.slice (some ⟨w2.heap.size, 0, none⟩) L.length L.length] 29)
      rw [World.size_alloc] at this
      exact (Below.heap_alloc _ _ _ (by simp)).trans ((Below.heap_alloc _ _ _ (by simp)).trans this)
    · have := heap_alloc_new ((w2.alloc (Obj.cells (UI (List.replicate L.length 0)).toArray 3)).alloc (Obj.cells #[Value.slice (some ⟨w2.heap.size, 0, none⟩) L.length L.length] 29)) (Obj.cells #[Value.int IntKind.i64 0] 3)
      rw [World.size_alloc, World.size_alloc] at this
      exact (Below.heap_alloc _ _ _ (by simp)).trans this
    · exact ((((Below.refl _ w2).alloc (Nat.le_refl _) _).alloc (by simp) _).alloc (by simp; omega) _).alloc (by simp; omega) _
    · have := heap_alloc_new (((w2.alloc (Obj.cells (UI (List.replicate L.length 0)).toArray 3)).alloc (Obj.cells #[Value.slice (some ⟨w2.heap.size, 0, none⟩) L.length L.length] 29)).alloc (Obj.cells #[Value.int IntKind.i64 0] 3)) (Obj.cells #[Value.slice a L.length cap] 22)
      rw [World.size_alloc, World.size_alloc, World.size_alloc] at this
      rw [cell_of_row _ _ 0 _ 22 (0, 0) this]; rfl
  obtain ⟨w3, hw3, D3, sA, bA⟩ := S3
  rw [hw3]
  clear hw3 c1A
  have rdA : RdB w.heap.size w3 a L := hrd.rdB.same (fun g hg => (D3.be.block g (by omega)).trans (k02.block g hg))
  refine wp_rangeT h1 (gf := 79) (lb := #[.pointer (some ⟨w2.heap.size + 3, 0, none⟩)]) rfl (enters_of Try.func79 (by kernel_rfl) rfl)
    (reach_seq (n - 1) (by omega) (w2.heap.size + 3) w.heap.size a cap L hLn hR w3 bA (by omega) (by omega) rdA) (Below.refl _ _) (fun _ => rfl) (by omega) (fun g hg => by omega)
    (fun pre T W => DepI L w2.heap.size w3 (nums pre) T W)
    (fun _ _ _ => False) (fun pre T A B h hst => h.st hst) (fun pre T A r o' h h1 h2 h3 => h.put (by omega)) (fun _ _ _ _ _ h => h.elim) ?start ?a1 ?assign ?body ?done (fun _ _ _ _ h => h.elim)
  case assign =>
    intro l x W K hK
    gi_wp2
    exact hK
  case start =>
    intro W hst
    have kp : ∀ g, g < w2.heap.size + 4 → W.heap[g]? = w3.heap[g]? := fun g hg => hst.block g (by omega) (fun h => h)
    refine ⟨by unfold RowI; rw [kp _ (by omega)]; exact D3.row, by rw [kp _ (by omega)]; exact D3.bx, by rw [kp _ (by omega)]; exact D3.gr, fun g hg => by omega, ?_, by have := hst.size; omega⟩
    exact ⟨hst.os, hst.tape, hst.output, by have := hst.size; omega, fun g hg => kp g (by omega)⟩
  case body =>
    rintro l pre ⟨x, hx⟩ T W hC hpl hT hsz
    have hbe := hC.be
    obtain ⟨b, o, rfl, hb, c0, c6, c7⟩ := (rdA.same (fun g hg => hbe.block g (by omega))) x hx
    have t1 : W.cell? ⟨w.heap.size, 1, none⟩ = some (.slice (some ⟨b, o, none⟩) L.length cap) := by
      rw [World.cell?_of_block (a := ⟨w.heap.size, 1, none⟩) ((hbe.block w.heap.size (by omega)).trans (D3.be.block _ (by omega)))]; exact c1
    have t2 : W.cell? ⟨w2.heap.size + 1, 0, none⟩ = some (.slice (some ⟨w2.heap.size, 0, none⟩) L.length L.length) := by rw [cell_of_row W _ 0 _ 29 (0, 0) hC.bx]; rfl
    have t3 : W.cell? ⟨w2.heap.size + 1 + 1, 0, none⟩ = some (.int .i64 ((dfold (shp L) L.length (nums pre)).2 : Nat)) := by rw [cell_of_row W _ 0 _ 3 (0, 0) hC.gr]; rfl
    have f3 : W.frozen? ⟨w2.heap.size + 1 + 1, 0, none⟩ = false := frozen_of_row W _ 0 _ 3 hC.gr
    have t4 := hC.row.cell x (by rw [dfold_len]; exact hx)
    have hxc : (x : Int) < (L.length : Int) := by omega
    have hin := isInner_any (L.getD x nd0).kd
    have h12 : 1 ≤ n - 1 - 1 := by omega
    obtain ⟨pv, hpv⟩ : ∃ pv, decide ((L.getD x nd0).kd = 2 ∨ (L.getD x nd0).kd = 3) = pv := ⟨_, rfl⟩
    rw [hpv] at hin
    generalize hX : (dfold (shp L) L.length (nums pre)).1.getD x 0 = X at t4
    generalize hG : (dfold (shp L) L.length (nums pre)).2 = G at t3
    generalize hkd : (L.getD x nd0).kd = kd at hin c0
    gi_wp2_with fail
    apply wpIn_to
    · gi_region_with fail
      all_goals exact ⟨rfl, rfl, rfl⟩
    · rename_i K hK
      refine hK _ _ ?_
      clear hK
      have hM : (if G < X then (X : Int) else (G : Int)) = ((max G X : Nat) : Int) := by split <;> omega
      rw [hM]
      have HM : Hid (max (dfold (shp L) L.length (nums pre)).2 ((dfold (shp L) L.length (nums pre)).1.getD x 0) = max G X) := by show _ = _; rw [hX, hG]
      have HX : Hid ((dfold (shp L) L.length (nums pre)).1.getD x 0 = X) := hX
      have hXb : X ≤ 2199023255552 := by
        have h := (dfold_le (shp L) L.length (nums pre)).1 x
        have hl : (nums pre).length = pre.length := by simp [nums]
        rw [hX, hl] at h
        omega
      clear hX hG hM t3 f3 t4
      generalize max G X = M at HM ⊢
      have ne1 : ∀ k, k ≠ w2.heap.size + 1 + 1 → ((W.setCell ⟨w2.heap.size + 1 + 1, 0, none⟩ (.int .i64 (M : Int))).drew).heap[k]? = W.heap[k]? := neq_set W (w2.heap.size + 1 + 1) 0 _
      have gr1 : ((W.setCell ⟨w2.heap.size + 1 + 1, 0, none⟩ (.int .i64 (M : Int))).drew).heap[w2.heap.size + 1 + 1]? = some (.cells #[.int .i64 (M : Nat)] 3 (0, 0)) := heap_setCell_same W (w2.heap.size + 1 + 1) 0 _ 3 _ hC.gr
      have st1 : (((W.setCell ⟨w2.heap.size + 1 + 1, 0, none⟩ (.int .i64 (M : Int))).drew).os = W.os ∧ ((W.setCell ⟨w2.heap.size + 1 + 1, 0, none⟩ (.int .i64 (M : Int))).drew).tape = W.tape ∧ ((W.setCell ⟨w2.heap.size + 1 + 1, 0, none⟩ (.int .i64 (M : Int))).drew).output = W.output) ∧ ((W.setCell ⟨w2.heap.size + 1 + 1, 0, none⟩ (.int .i64 (M : Int))).drew).heap.size = W.heap.size := ⟨⟨rfl, rfl, rfl⟩, by show (W.setCell _ _).heap.size = _; simp⟩
      generalize (W.setCell ⟨w2.heap.size + 1 + 1, 0, none⟩ (.int .i64 (M : Int))).drew = W1 at ne1 gr1 st1 ⊢
      have c0 : W1.cell? ⟨b, o + x * 8, none⟩ = some (.int .u8 (kd : Nat)) := by rw [World.cell?_of_block (a := ⟨b, o + x * 8, none⟩) (ne1 b (by omega))]; exact c0
      have c6 : W1.cell? ⟨b, o + x * 8 + 6, none⟩ = some (.int .i64 (L.getD x nd0).lf) := by rw [World.cell?_of_block (a := ⟨b, o + x * 8 + 6, none⟩) (ne1 b (by omega))]; exact c6
      have c7 : W1.cell? ⟨b, o + x * 8 + 7, none⟩ = some (.int .i64 (L.getD x nd0).rt) := by rw [World.cell?_of_block (a := ⟨b, o + x * 8 + 7, none⟩) (ne1 b (by omega))]; exact c7
      have t1 : W1.cell? ⟨w.heap.size, 1, none⟩ = some (.slice (some ⟨b, o, none⟩) L.length cap) := by rw [World.cell?_of_block (a := ⟨w.heap.size, 1, none⟩) (ne1 w.heap.size (by omega))]; exact t1
      have t2 : W1.cell? ⟨w2.heap.size + 1, 0, none⟩ = some (.slice (some ⟨w2.heap.size, 0, none⟩) L.length L.length) := by rw [World.cell?_of_block (a := ⟨w2.heap.size + 1, 0, none⟩) (ne1 (w2.heap.size + 1) (by omega))]; exact t2
      have row1 : RowI W1 w2.heap.size (dfold (shp L) L.length (nums pre)).1 := by unfold RowI; rw [ne1 _ (by omega)]; exact hC.row
      have bx1 := (ne1 (w2.heap.size + 1) (by omega)).trans hC.bx
      have t4 := row1.cell x (by rw [dfold_len]; exact hx)
      rw [HX.out] at t4
      have hK : (shp L).K x = pv := by rw [← hpv]; rfl
      have HK : Hid ((shp L).K x = pv) := hK
      have hnum : nums (pre ++ [⟨x, hx⟩]) = nums pre ++ [x] := by simp [nums]
      cases pv
      · have HF : Hid (dfold (shp L) L.length (nums (pre ++ [⟨x, hx⟩])) = ((dfold (shp L) L.length (nums pre)).1, M)) := by
          show _ = _
          rw [hnum, dfold_app]; unfold dstep
          rw [hK, HM.out]; rfl
        clear hK hpv hkd
        gi_wp2_with (refine ⟨trivial, ?_⟩; gi_at_call 50; refine (CallsIn.inRound l (callsIn_wide.2 (hin _))).mono ?_; rintro e w' ⟨rfl, hw'⟩; have hw2 := hw'.symm; subst hw2)
        unfold postT
        refine ⟨⟨ne1 _ (by omega), ne1 _ (by omega)⟩, ⟨st1.1.1, st1.1.2.1, st1.1.2.2, by omega, fun g hg h => ne1 g (by rcases h with h | h; omega; have := hC.tb g h; omega)⟩, ?_⟩
        refine ⟨by rw [HF.out]; exact row1, bx1, by rw [HF.out]; exact gr1, hC.tb, ?_, by omega⟩
        exact ⟨st1.1.1.trans hbe.os, st1.1.2.1.trans hbe.tape, st1.1.2.2.trans hbe.output, by have := hbe.size; omega, fun g hg => (ne1 g (by omega)).trans (hbe.block g hg)⟩
      · obtain ⟨⟨e6, l6, p6⟩, ⟨e7, l7, p7⟩⟩ := hR.kids hx hK
        rw [e6] at c6
        rw [e7] at c7
        have HF : Hid (dfold (shp L) L.length (nums (pre ++ [⟨x, hx⟩])) = (((dfold (shp L) L.length (nums pre)).1.set ((shp L).A x) (X + 1)).set ((shp L).B x) (X + 1), M)) := by
          show _ = _
          rw [hnum, dfold_app]; unfold dstep
          rw [hK, HM.out, HX.out]; rfl
        clear hK hpv hkd e6 e7
        have fA := row1.frozen ((shp L).A x)
        have cA := row1.cell ((shp L).A x) (by rw [dfold_len]; exact l6)
        have RA := row1.set ((shp L).A x) (X + 1)
        have cB := RA.cell ((shp L).B x) (by rw [List.length_set, dfold_len]; exact l7)
        have fB := RA.frozen ((shp L).B x)
        have RBB := RA.set ((shp L).B x) (X + 1)
        generalize (shp L).A x = ai at *
        generalize (shp L).B x = bi at *
        gi_wp2_with (refine ⟨trivial, ?_⟩; gi_at_call 50; refine (CallsIn.inRound l (callsIn_wide.2 (hin _))).mono ?_; rintro e w' ⟨rfl, hw'⟩; have hw2 := hw'.symm; subst hw2)
        have hai : (ai : Int) < (L.length : Int) := by omega
        have hbi : (bi : Int) < (L.length : Int) := by omega
        push_cast at RA cB fB RBB
        have hwr : IntKind.i64.wrap ((X : Int) + 1) = (X : Int) + 1 := wrap_small (by omega) (by omega)
        have t2s : (W1.drew.setCell ⟨w2.heap.size, ai, none⟩ (.int .i64 ((X : Int) + 1))).cell? ⟨w2.heap.size + 1, 0, none⟩ = some (.slice (some ⟨w2.heap.size, 0, none⟩) L.length L.length) := by
          rw [World.cell?_of_block (a := ⟨w2.heap.size + 1, 0, none⟩) (neq_set W1.drew w2.heap.size ai _ (w2.heap.size + 1) (by omega))]; exact t2
        refine wpIn_mono (Q := fun e a' w' => e = .normal ∧ w' = (W1.drew.setCell ⟨w2.heap.size, ai, none⟩ (.int .i64 ((X : Int) + 1))).setCell ⟨w2.heap.size, bi, none⟩ (.int .i64 ((X : Int) + 1))) ?_ ?_
        · refine wpIn_region_inv (dpI W1.drew w2.heap.size L.length b (o + x * 8) ai bi x X (fun xv => { tmps := #[Value.agg #[Value.int IntKind.i64 out, Value.slice (some { block := b, off := o }) L.length cap], Value.pointer (some { block := w.heap.size, off := 0 }), Value.int IntKind.i64 0, Value.int IntKind.i64 0, Value.int IntKind.i64 0, Value.int IntKind.i64 ↑(shI L), Value.pointer (some { block := w2.heap.size + 1, off := 0 }), Value.pointer (some { block := w2.heap.size + 1 + 1, off := 0 }), Value.int IntKind.i64 ↑x, Value.pointer (some { block := b, off := o + x * 8 }), Value.tuple #[Value.int IntKind.i64 0, Value.int IntKind.i64 ↑(shI L)], Value.agg #[Value.int IntKind.i64 out, Value.slice (some { block := b, off := o }) L.length cap], Value.tuple #[Value.int IntKind.i64 0, Value.int IntKind.i64 ↑(shI L)], Value.int IntKind.i64 0, Value.int IntKind.i64 ↑(shI L), Value.int IntKind.i64 0, Value.bool false, undef, Value.pointer (some { block := w.heap.size, off := 1 }), Value.slice (some { block := b, off := o }) L.length cap, Value.int IntKind.i64 ↑L.length, Value.slice (some { block := w2.heap.size, off := 0 }) L.length L.length, Value.pointer (some { block := w.heap.size, off := 1 }), Value.slice (some { block := b, off := o }) L.length cap, Value.func (Fn.func 79) #[] #[Value.pointer (some { block := w2.heap.size + 1 + 1 + 1, off := 0 })], Value.int IntKind.i64 ↑x, Value.int IntKind.i64 ↑G, Value.slice (some { block := w2.heap.size, off := 0 }) L.length L.length, Value.int IntKind.i64 ↑x, Value.pointer (some { block := w2.heap.size, off := x }), Value.int IntKind.i64 ↑X, Value.int IntKind.i64 ↑M, Value.pointer (some { block := w.heap.size, off := 1 }), Value.slice (some { block := b, off := o }) L.length cap, Value.int IntKind.i64 ↑x, Value.pointer (some { block := b, off := o + x * 8 }), Value.pointer (some { block := b, off := o + x * 8 }), Value.pointer (some { block := b, off := o + x * 8 }), Value.pointer (some { block := b, off := o + x * 8 }), Value.int IntKind.u8 ↑kd, Value.bool true, xv 0, xv 1, xv 2, xv 3, xv 4, xv 5, xv 6, xv 7, xv 8, xv 9, xv 10, xv 11, xv 12, xv 13, xv 14, xv 15, xv 16, xv 17, xv 18, xv 19, xv 20, xv 22, undef], defers := [] })) (by kernel_rfl) (fun l A w h => h.1) ⟨rfl, ⟨fun _ => undef, rfl, fun j _ _ hj => ?_⟩, rfl, fun hj => ?_, fun hj => ?_⟩ ?_ ?_
          · exfalso; simp [Array.getD] at hj
          · exfalso; simp [Array.getD] at hj
          · exfalso; simp [Array.getD] at hj
          · rintro ls Ac wq ii ⟨hs, ⟨xv, rfl, hx⟩, hw, h21, h23⟩ hi
            obtain ⟨hun, oo, ho, hd⟩ := mem_ready.1 hi
            have hlt := (Array.getElem?_eq_some_iff.1 ho).1
            have hii : ls.getD ii false = false := by
              have : ii < ls.size := by rw [hs]; exact hlt
              simp [Array.getD, this] at hun ⊢
              exact hun
            match ii, hlt with
            | 0, _ =>
              simp only [List.getElem?_toArray, List.getElem?_cons_succ, List.getElem?_cons_zero, Option.some.injEq] at ho
              subst ho
              have l21 : ls.getD 21 false = false := by
                cases h : ls.getD 21 false
                · rfl
                · have := h21 h 0 (by simp [dpD]); rw [this] at hii; cases hii
              have l23 : ls.getD 23 false = false := by
                cases h : ls.getD 23 false
                · rfl
                · have := h23 h 0 (by omega); rw [this] at hii; cases hii
              rw [dpW_none l21 l23] at hw
              subst hw
              refine wpOpIn_step rfl (fun K hK => ?_)
              go_simp
              exact hK _ _ (dpI.next (i := 0) (v := .slice (some ⟨w2.heap.size, 0, none⟩) L.length L.length) hs hx h21 h23 (by omega) rfl (fun _ _ => rfl) (by rw [dpW_set (by omega) (by omega), dpW_none l21 l23]; first | done | rfl) (fun h => absurd h (by omega)) (fun h => absurd h (by omega)))
            | 1, _ =>
              simp only [List.getElem?_toArray, List.getElem?_cons_succ, List.getElem?_cons_zero, Option.some.injEq] at ho
              subst ho
              have l21 : ls.getD 21 false = false := by
                cases h : ls.getD 21 false
                · rfl
                · have := h21 h 1 (by simp [dpD]); rw [this] at hii; cases hii
              have l23 : ls.getD 23 false = false := by
                cases h : ls.getD 23 false
                · rfl
                · have := h23 h 1 (by omega); rw [this] at hii; cases hii
              refine wpOpIn_step rfl (fun K hK => ?_)
              go_simp
              exact hK _ _ (dpI.next (i := 1) (v := .pointer (some ⟨b, o + x * 8, none⟩)) hs hx h21 h23 (by omega) rfl (fun _ _ => rfl) (by rw [dpW_set (by omega) (by omega)]; first | done | exact hw) (fun h => absurd h (by omega)) (fun h => absurd h (by omega)))
            | 2, _ =>
              simp only [List.getElem?_toArray, List.getElem?_cons_succ, List.getElem?_cons_zero, Option.some.injEq] at ho
              subst ho
              have e1 : xv 1 = .pointer (some ⟨b, o + x * 8, none⟩) := hx 1 (by omega) (by omega) (hd { on := 1, ground := .data } (by simp) rfl)
              have l21 : ls.getD 21 false = false := by
                cases h : ls.getD 21 false
                · rfl
                · have := h21 h 2 (by simp [dpD]); rw [this] at hii; cases hii
              have l23 : ls.getD 23 false = false := by
                cases h : ls.getD 23 false
                · rfl
                · have := h23 h 2 (by omega); rw [this] at hii; cases hii
              refine wpOpIn_step rfl (fun K hK => ?_)
              go_simp
              exact hK _ _ (dpI.next (i := 2) (v := .pointer (some ⟨b, o + x * 8, none⟩)) hs hx h21 h23 (by omega) (by simp [e1]) (fun _ _ => rfl) (by rw [dpW_set (by omega) (by omega)]; first | done | exact hw) (fun h => absurd h (by omega)) (fun h => absurd h (by omega)))
            | 3, _ =>
              simp only [List.getElem?_toArray, List.getElem?_cons_succ, List.getElem?_cons_zero, Option.some.injEq] at ho
              subst ho
              have e2 : xv 2 = .pointer (some ⟨b, o + x * 8, none⟩) := hx 2 (by omega) (by omega) (hd { on := 2, ground := .data } (by simp) rfl)
              have l21 : ls.getD 21 false = false := by
                cases h : ls.getD 21 false
                · rfl
                · have := h21 h 3 (by simp [dpD]); rw [this] at hii; cases hii
              have l23 : ls.getD 23 false = false := by
                cases h : ls.getD 23 false
                · rfl
                · have := h23 h 3 (by omega); rw [this] at hii; cases hii
              refine wpOpIn_step rfl (fun K hK => ?_)
              go_simp
              exact hK _ _ (dpI.next (i := 3) (v := .pointer (some ⟨b, o + x * 8 + 6, none⟩)) hs hx h21 h23 (by omega) (by simp [e2]) (fun _ _ => rfl) (by rw [dpW_set (by omega) (by omega)]; first | done | exact hw) (fun h => absurd h (by omega)) (fun h => absurd h (by omega)))
            | 4, _ =>
              simp only [List.getElem?_toArray, List.getElem?_cons_succ, List.getElem?_cons_zero, Option.some.injEq] at ho
              subst ho
              have e3 : xv 3 = .pointer (some ⟨b, o + x * 8 + 6, none⟩) := hx 3 (by omega) (by omega) (hd { on := 3, ground := .data } (by simp) rfl)
              have l21 : ls.getD 21 false = false := by
                cases h : ls.getD 21 false
                · rfl
                · have := h21 h 4 (by simp [dpD]); rw [this] at hii; cases hii
              have l23 : ls.getD 23 false = false := by
                cases h : ls.getD 23 false
                · rfl
                · have := h23 h 4 (by omega); rw [this] at hii; cases hii
              rw [dpW_none l21 l23] at hw
              subst hw
              refine wpOpIn_step rfl (fun K hK => ?_)
              go_simp
              exact hK _ _ (dpI.next (i := 4) (v := .int .i64 (ai : Nat)) hs hx h21 h23 (by omega) (by simp [e3]) (fun _ _ => rfl) (by rw [dpW_set (by omega) (by omega), dpW_none l21 l23]; first | done | rfl) (fun h => absurd h (by omega)) (fun h => absurd h (by omega)))
            | 5, _ =>
              simp only [List.getElem?_toArray, List.getElem?_cons_succ, List.getElem?_cons_zero, Option.some.injEq] at ho
              subst ho
              have l23 : ls.getD 23 false = false := by
                cases h : ls.getD 23 false
                · rfl
                · have := h23 h 5 (by omega); rw [this] at hii; cases hii
              cases l21 : ls.getD 21 false
              · rw [dpW_none l21 l23] at hw
                subst hw
                refine wpOpIn_step rfl (fun K hK => ?_)
                go_simp
                exact hK _ _ (dpI.next (i := 5) (v := .slice (some ⟨w2.heap.size, 0, none⟩) L.length L.length) hs hx h21 h23 (by omega) rfl (fun _ _ => rfl) (by rw [dpW_set (by omega) (by omega), dpW_none l21 l23]; first | done | rfl) (fun h => absurd h (by omega)) (fun h => absurd h (by omega)))
              · rw [dpW_one l21 l23] at hw
                subst hw
                refine wpOpIn_step rfl (fun K hK => ?_)
                go_simp
                exact hK _ _ (dpI.next (i := 5) (v := .slice (some ⟨w2.heap.size, 0, none⟩) L.length L.length) hs hx h21 h23 (by omega) rfl (fun _ _ => rfl) (by rw [dpW_set (by omega) (by omega), dpW_one l21 l23]; first | done | rfl) (fun h => absurd h (by omega)) (fun h => absurd h (by omega)))
            | 6, _ =>
              simp only [List.getElem?_toArray, List.getElem?_cons_succ, List.getElem?_cons_zero, Option.some.injEq] at ho
              subst ho
              have l23 : ls.getD 23 false = false := by
                cases h : ls.getD 23 false
                · rfl
                · have := h23 h 6 (by omega); rw [this] at hii; cases hii
              refine wpOpIn_step rfl (fun K hK => ?_)
              go_simp
              exact hK _ _ (dpI.next (i := 6) (v := .pointer (some ⟨b, o + x * 8, none⟩)) hs hx h21 h23 (by omega) rfl (fun _ _ => rfl) (by rw [dpW_set (by omega) (by omega)]; first | done | exact hw) (fun h => absurd h (by omega)) (fun h => absurd h (by omega)))
            | 7, _ =>
              simp only [List.getElem?_toArray, List.getElem?_cons_succ, List.getElem?_cons_zero, Option.some.injEq] at ho
              subst ho
              have e6 : xv 6 = .pointer (some ⟨b, o + x * 8, none⟩) := hx 6 (by omega) (by omega) (hd { on := 6, ground := .data } (by simp) rfl)
              have l23 : ls.getD 23 false = false := by
                cases h : ls.getD 23 false
                · rfl
                · have := h23 h 7 (by omega); rw [this] at hii; cases hii
              refine wpOpIn_step rfl (fun K hK => ?_)
              go_simp
              exact hK _ _ (dpI.next (i := 7) (v := .pointer (some ⟨b, o + x * 8, none⟩)) hs hx h21 h23 (by omega) (by simp [e6]) (fun _ _ => rfl) (by rw [dpW_set (by omega) (by omega)]; first | done | exact hw) (fun h => absurd h (by omega)) (fun h => absurd h (by omega)))
            | 8, _ =>
              simp only [List.getElem?_toArray, List.getElem?_cons_succ, List.getElem?_cons_zero, Option.some.injEq] at ho
              subst ho
              have e7 : xv 7 = .pointer (some ⟨b, o + x * 8, none⟩) := hx 7 (by omega) (by omega) (hd { on := 7, ground := .data } (by simp) rfl)
              have l23 : ls.getD 23 false = false := by
                cases h : ls.getD 23 false
                · rfl
                · have := h23 h 8 (by omega); rw [this] at hii; cases hii
              refine wpOpIn_step rfl (fun K hK => ?_)
              go_simp
              exact hK _ _ (dpI.next (i := 8) (v := .pointer (some ⟨b, o + x * 8 + 7, none⟩)) hs hx h21 h23 (by omega) (by simp [e7]) (fun _ _ => rfl) (by rw [dpW_set (by omega) (by omega)]; first | done | exact hw) (fun h => absurd h (by omega)) (fun h => absurd h (by omega)))
            | 9, _ =>
              simp only [List.getElem?_toArray, List.getElem?_cons_succ, List.getElem?_cons_zero, Option.some.injEq] at ho
              subst ho
              have e8 : xv 8 = .pointer (some ⟨b, o + x * 8 + 7, none⟩) := hx 8 (by omega) (by omega) (hd { on := 8, ground := .data } (by simp) rfl)
              have l21 : ls.getD 21 false = false := by
                cases h : ls.getD 21 false
                · rfl
                · have := h21 h 9 (by simp [dpD]); rw [this] at hii; cases hii
              have l23 : ls.getD 23 false = false := by
                cases h : ls.getD 23 false
                · rfl
                · have := h23 h 9 (by omega); rw [this] at hii; cases hii
              rw [dpW_none l21 l23] at hw
              subst hw
              refine wpOpIn_step rfl (fun K hK => ?_)
              go_simp
              exact hK _ _ (dpI.next (i := 9) (v := .int .i64 (bi : Nat)) hs hx h21 h23 (by omega) (by simp [e8]) (fun _ _ => rfl) (by rw [dpW_set (by omega) (by omega), dpW_none l21 l23]; first | done | rfl) (fun h => absurd h (by omega)) (fun h => absurd h (by omega)))
            | 10, _ =>
              simp only [List.getElem?_toArray, List.getElem?_cons_succ, List.getElem?_cons_zero, Option.some.injEq] at ho
              subst ho
              have l21 : ls.getD 21 false = false := by
                cases h : ls.getD 21 false
                · rfl
                · have := h21 h 10 (by simp [dpD]); rw [this] at hii; cases hii
              have l23 : ls.getD 23 false = false := by
                cases h : ls.getD 23 false
                · rfl
                · have := h23 h 10 (by omega); rw [this] at hii; cases hii
              rw [dpW_none l21 l23] at hw
              subst hw
              refine wpOpIn_step rfl (fun K hK => ?_)
              go_simp
              exact hK _ _ (dpI.next (i := 10) (v := .slice (some ⟨w2.heap.size, 0, none⟩) L.length L.length) hs hx h21 h23 (by omega) rfl (fun _ _ => rfl) (by rw [dpW_set (by omega) (by omega), dpW_none l21 l23]; first | done | rfl) (fun h => absurd h (by omega)) (fun h => absurd h (by omega)))
            | 11, _ =>
              simp only [List.getElem?_toArray, List.getElem?_cons_succ, List.getElem?_cons_zero, Option.some.injEq] at ho
              subst ho
              have l21 : ls.getD 21 false = false := by
                cases h : ls.getD 21 false
                · rfl
                · have := h21 h 11 (by simp [dpD]); rw [this] at hii; cases hii
              have l23 : ls.getD 23 false = false := by
                cases h : ls.getD 23 false
                · rfl
                · have := h23 h 11 (by omega); rw [this] at hii; cases hii
              refine wpOpIn_step rfl (fun K hK => ?_)
              go_simp
              exact hK _ _ (dpI.next (i := 11) (v := .int .i64 (x : Nat)) hs hx h21 h23 (by omega) rfl (fun _ _ => rfl) (by rw [dpW_set (by omega) (by omega)]; first | done | exact hw) (fun h => absurd h (by omega)) (fun h => absurd h (by omega)))
            | 12, _ =>
              simp only [List.getElem?_toArray, List.getElem?_cons_succ, List.getElem?_cons_zero, Option.some.injEq] at ho
              subst ho
              have e10 : xv 10 = .slice (some ⟨w2.heap.size, 0, none⟩) L.length L.length := hx 10 (by omega) (by omega) (hd { on := 10, ground := .data } (by simp) rfl)
              have e11 : xv 11 = .int .i64 (x : Nat) := hx 11 (by omega) (by omega) (hd { on := 11, ground := .data } (by simp) rfl)
              have l21 : ls.getD 21 false = false := by
                cases h : ls.getD 21 false
                · rfl
                · have := h21 h 12 (by simp [dpD]); rw [this] at hii; cases hii
              have l23 : ls.getD 23 false = false := by
                cases h : ls.getD 23 false
                · rfl
                · have := h23 h 12 (by omega); rw [this] at hii; cases hii
              refine wpOpIn_step rfl (fun K hK => ?_)
              go_simp
              exact hK _ _ (dpI.next (i := 12) (v := .pointer (some ⟨w2.heap.size, x, none⟩)) hs hx h21 h23 (by omega) (by simp [e10, e11]) (fun _ _ => rfl) (by rw [dpW_set (by omega) (by omega)]; first | done | exact hw) (fun h => absurd h (by omega)) (fun h => absurd h (by omega)))
            | 13, _ =>
              simp only [List.getElem?_toArray, List.getElem?_cons_succ, List.getElem?_cons_zero, Option.some.injEq] at ho
              subst ho
              have e12 : xv 12 = .pointer (some ⟨w2.heap.size, x, none⟩) := hx 12 (by omega) (by omega) (hd { on := 12, ground := .data } (by simp) rfl)
              have l21 : ls.getD 21 false = false := by
                cases h : ls.getD 21 false
                · rfl
                · have := h21 h 13 (by simp [dpD]); rw [this] at hii; cases hii
              have l23 : ls.getD 23 false = false := by
                cases h : ls.getD 23 false
                · rfl
                · have := h23 h 13 (by omega); rw [this] at hii; cases hii
              rw [dpW_none l21 l23] at hw
              subst hw
              refine wpOpIn_step rfl (fun K hK => ?_)
              go_simp
              exact hK _ _ (dpI.next (i := 13) (v := .int .i64 (X : Nat)) hs hx h21 h23 (by omega) (by simp [e12]) (fun _ _ => rfl) (by rw [dpW_set (by omega) (by omega), dpW_none l21 l23]; first | done | rfl) (fun h => absurd h (by omega)) (fun h => absurd h (by omega)))
            | 14, _ =>
              simp only [List.getElem?_toArray, List.getElem?_cons_succ, List.getElem?_cons_zero, Option.some.injEq] at ho
              subst ho
              have e13 : xv 13 = .int .i64 (X : Nat) := hx 13 (by omega) (by omega) (hd { on := 13, ground := .data } (by simp) rfl)
              have l21 : ls.getD 21 false = false := by
                cases h : ls.getD 21 false
                · rfl
                · have := h21 h 14 (by simp [dpD]); rw [this] at hii; cases hii
              have l23 : ls.getD 23 false = false := by
                cases h : ls.getD 23 false
                · rfl
                · have := h23 h 14 (by omega); rw [this] at hii; cases hii
              refine wpOpIn_step rfl (fun K hK => ?_)
              go_simp
              exact hK _ _ (dpI.next (i := 14) (v := .int .i64 ((X : Int) + 1)) hs hx h21 h23 (by omega) (by simp [e13]) (fun _ _ => rfl) (by rw [dpW_set (by omega) (by omega)]; first | done | exact hw) (fun h => absurd h (by omega)) (fun h => absurd h (by omega)))
            | 15, _ =>
              simp only [List.getElem?_toArray, List.getElem?_cons_succ, List.getElem?_cons_zero, Option.some.injEq] at ho
              subst ho
              have l23 : ls.getD 23 false = false := by
                cases h : ls.getD 23 false
                · rfl
                · have := h23 h 15 (by omega); rw [this] at hii; cases hii
              cases l21 : ls.getD 21 false
              · rw [dpW_none l21 l23] at hw
                subst hw
                refine wpOpIn_step rfl (fun K hK => ?_)
                go_simp
                exact hK _ _ (dpI.next (i := 15) (v := .slice (some ⟨w2.heap.size, 0, none⟩) L.length L.length) hs hx h21 h23 (by omega) rfl (fun _ _ => rfl) (by rw [dpW_set (by omega) (by omega), dpW_none l21 l23]; first | done | rfl) (fun h => absurd h (by omega)) (fun h => absurd h (by omega)))
              · rw [dpW_one l21 l23] at hw
                subst hw
                refine wpOpIn_step rfl (fun K hK => ?_)
                go_simp
                exact hK _ _ (dpI.next (i := 15) (v := .slice (some ⟨w2.heap.size, 0, none⟩) L.length L.length) hs hx h21 h23 (by omega) rfl (fun _ _ => rfl) (by rw [dpW_set (by omega) (by omega), dpW_one l21 l23]; first | done | rfl) (fun h => absurd h (by omega)) (fun h => absurd h (by omega)))
            | 16, _ =>
              simp only [List.getElem?_toArray, List.getElem?_cons_succ, List.getElem?_cons_zero, Option.some.injEq] at ho
              subst ho
              have l23 : ls.getD 23 false = false := by
                cases h : ls.getD 23 false
                · rfl
                · have := h23 h 16 (by omega); rw [this] at hii; cases hii
              refine wpOpIn_step rfl (fun K hK => ?_)
              go_simp
              exact hK _ _ (dpI.next (i := 16) (v := .int .i64 (x : Nat)) hs hx h21 h23 (by omega) rfl (fun _ _ => rfl) (by rw [dpW_set (by omega) (by omega)]; first | done | exact hw) (fun h => absurd h (by omega)) (fun h => absurd h (by omega)))
            | 17, _ =>
              simp only [List.getElem?_toArray, List.getElem?_cons_succ, List.getElem?_cons_zero, Option.some.injEq] at ho
              subst ho
              have e15 : xv 15 = .slice (some ⟨w2.heap.size, 0, none⟩) L.length L.length := hx 15 (by omega) (by omega) (hd { on := 15, ground := .data } (by simp) rfl)
              have e16 : xv 16 = .int .i64 (x : Nat) := hx 16 (by omega) (by omega) (hd { on := 16, ground := .data } (by simp) rfl)
              have l23 : ls.getD 23 false = false := by
                cases h : ls.getD 23 false
                · rfl
                · have := h23 h 17 (by omega); rw [this] at hii; cases hii
              refine wpOpIn_step rfl (fun K hK => ?_)
              go_simp
              exact hK _ _ (dpI.next (i := 17) (v := .pointer (some ⟨w2.heap.size, x, none⟩)) hs hx h21 h23 (by omega) (by simp [e15, e16]) (fun _ _ => rfl) (by rw [dpW_set (by omega) (by omega)]; first | done | exact hw) (fun h => absurd h (by omega)) (fun h => absurd h (by omega)))
            | 18, _ =>
              simp only [List.getElem?_toArray, List.getElem?_cons_succ, List.getElem?_cons_zero, Option.some.injEq] at ho
              subst ho
              have e17 : xv 17 = .pointer (some ⟨w2.heap.size, x, none⟩) := hx 17 (by omega) (by omega) (hd { on := 17, ground := .data } (by simp) rfl)
              have l21 : ls.getD 21 false = false := by
                cases h : ls.getD 21 false
                · rfl
                · have := h21 h 18 (by simp [dpD]); rw [this] at hii; cases hii
              have l23 : ls.getD 23 false = false := by
                cases h : ls.getD 23 false
                · rfl
                · have := h23 h 18 (by omega); rw [this] at hii; cases hii
              rw [dpW_none l21 l23] at hw
              subst hw
              refine wpOpIn_step rfl (fun K hK => ?_)
              go_simp
              exact hK _ _ (dpI.next (i := 18) (v := .int .i64 (X : Nat)) hs hx h21 h23 (by omega) (by simp [e17]) (fun _ _ => rfl) (by rw [dpW_set (by omega) (by omega), dpW_none l21 l23]; first | done | rfl) (fun h => absurd h (by omega)) (fun h => absurd h (by omega)))
            | 19, _ =>
              simp only [List.getElem?_toArray, List.getElem?_cons_succ, List.getElem?_cons_zero, Option.some.injEq] at ho
              subst ho
              have e18 : xv 18 = .int .i64 (X : Nat) := hx 18 (by omega) (by omega) (hd { on := 18, ground := .data } (by simp) rfl)
              have l23 : ls.getD 23 false = false := by
                cases h : ls.getD 23 false
                · rfl
                · have := h23 h 19 (by omega); rw [this] at hii; cases hii
              refine wpOpIn_step rfl (fun K hK => ?_)
              go_simp
              exact hK _ _ (dpI.next (i := 19) (v := .int .i64 ((X : Int) + 1)) hs hx h21 h23 (by omega) (by simp [e18]) (fun _ _ => rfl) (by rw [dpW_set (by omega) (by omega)]; first | done | exact hw) (fun h => absurd h (by omega)) (fun h => absurd h (by omega)))
            | 20, _ =>
              simp only [List.getElem?_toArray, List.getElem?_cons_succ, List.getElem?_cons_zero, Option.some.injEq] at ho
              subst ho
              have e0 : xv 0 = .slice (some ⟨w2.heap.size, 0, none⟩) L.length L.length := hx 0 (by omega) (by omega) (hd { on := 0, ground := .data } (by simp) rfl)
              have e4 : xv 4 = .int .i64 (ai : Nat) := hx 4 (by omega) (by omega) (hd { on := 4, ground := .data } (by simp) rfl)
              have l21 : ls.getD 21 false = false := by
                cases h : ls.getD 21 false
                · rfl
                · have := h21 h 20 (by simp [dpD]); rw [this] at hii; cases hii
              have l23 : ls.getD 23 false = false := by
                cases h : ls.getD 23 false
                · rfl
                · have := h23 h 20 (by omega); rw [this] at hii; cases hii
              refine wpOpIn_step rfl (fun K hK => ?_)
              go_simp
              exact hK _ _ (dpI.next (i := 20) (v := .pointer (some ⟨w2.heap.size, ai, none⟩)) hs hx h21 h23 (by omega) (by simp [e0, e4]) (fun _ _ => rfl) (by rw [dpW_set (by omega) (by omega)]; first | done | exact hw) (fun h => absurd h (by omega)) (fun h => absurd h (by omega)))
            | 21, _ =>
              simp only [List.getElem?_toArray, List.getElem?_cons_succ, List.getElem?_cons_zero, Option.some.injEq] at ho
              subst ho
              have e20 : xv 20 = .pointer (some ⟨w2.heap.size, ai, none⟩) := hx 20 (by omega) (by omega) (hd { on := 20, ground := .data } (by simp) rfl)
              have e14 : xv 14 = .int .i64 ((X : Int) + 1) := hx 14 (by omega) (by omega) (hd { on := 14, ground := .data } (by simp) rfl)
              have l23 : ls.getD 23 false = false := by
                cases h : ls.getD 23 false
                · rfl
                · have := h23 h 21 (by omega); rw [this] at hii; cases hii
              rw [dpW_none hii l23] at hw
              subst hw
              have hall : ∀ j ∈ dpD, ls.getD j false = true := by
                intro j hj
                simp only [dpD, List.mem_cons, List.not_mem_nil, or_false] at hj
                rcases hj with rfl | rfl | rfl | rfl | rfl | rfl | rfl | rfl | rfl | rfl | rfl | rfl | rfl
                · exact hd { on := 20, ground := .data } (by simp) rfl
                · exact hd { on := 14, ground := .data } (by simp) rfl
                · exact hd { on := 0, ground := .phase } (by simp) rfl
                · exact hd { on := 1, ground := .phase } (by simp) rfl
                · exact hd { on := 2, ground := .phase } (by simp) rfl
                · exact hd { on := 3, ground := .phase } (by simp) rfl
                · exact hd { on := 4, ground := .phase } (by simp) rfl
                · exact hd { on := 9, ground := .phase } (by simp) rfl
                · exact hd { on := 10, ground := .phase } (by simp) rfl
                · exact hd { on := 11, ground := .phase } (by simp) rfl
                · exact hd { on := 12, ground := .phase } (by simp) rfl
                · exact hd { on := 13, ground := .phase } (by simp) rfl
                · exact hd { on := 18, ground := .phase } (by simp) rfl
              refine wpOpIn_step rfl (fun K hK => ?_)
              go_simp
              exact hK _ _ (dpI.next (i := 21) (v := undef) hs hx h21 h23 (by omega) (by simp [e20, e14]) (fun _ h => absurd rfl h) (by rw [dpW_one (set_same (by omega)) (by rw [getD_set_ne false (by omega)]; exact l23)]; first | done | rfl) (fun _ => hall) (fun h => absurd h (by omega)))
            | 22, _ =>
              simp only [List.getElem?_toArray, List.getElem?_cons_succ, List.getElem?_cons_zero, Option.some.injEq] at ho
              subst ho
              have e5 : xv 5 = .slice (some ⟨w2.heap.size, 0, none⟩) L.length L.length := hx 5 (by omega) (by omega) (hd { on := 5, ground := .data } (by simp) rfl)
              have e9 : xv 9 = .int .i64 (bi : Nat) := hx 9 (by omega) (by omega) (hd { on := 9, ground := .data } (by simp) rfl)
              have l23 : ls.getD 23 false = false := by
                cases h : ls.getD 23 false
                · rfl
                · have := h23 h 22 (by omega); rw [this] at hii; cases hii
              refine wpOpIn_step rfl (fun K hK => ?_)
              go_simp
              exact hK _ _ (dpI.next (i := 22) (v := .pointer (some ⟨w2.heap.size, bi, none⟩)) hs hx h21 h23 (by omega) (by simp [e5, e9]) (fun _ _ => rfl) (by rw [dpW_set (by omega) (by omega)]; first | done | exact hw) (fun h => absurd h (by omega)) (fun h => absurd h (by omega)))
            | 23, _ =>
              simp only [List.getElem?_toArray, List.getElem?_cons_succ, List.getElem?_cons_zero, Option.some.injEq] at ho
              subst ho
              have e22 : xv 22 = .pointer (some ⟨w2.heap.size, bi, none⟩) := hx 22 (by omega) (by omega) (hd { on := 22, ground := .data } (by simp) rfl)
              have e19 : xv 19 = .int .i64 ((X : Int) + 1) := hx 19 (by omega) (by omega) (hd { on := 19, ground := .data } (by simp) rfl)
              have hall : ∀ j, j < 23 → ls.getD j false = true := by
                intro j hj
                match j, hj with
                | 0, _ => exact hd { on := 0, ground := .phase } (by simp) rfl
                | 1, _ => exact hd { on := 1, ground := .phase } (by simp) rfl
                | 2, _ => exact hd { on := 2, ground := .phase } (by simp) rfl
                | 3, _ => exact hd { on := 3, ground := .phase } (by simp) rfl
                | 4, _ => exact hd { on := 4, ground := .phase } (by simp) rfl
                | 5, _ => exact hd { on := 5, ground := .phase } (by simp) rfl
                | 6, _ => exact hd { on := 6, ground := .phase } (by simp) rfl
                | 7, _ => exact hd { on := 7, ground := .phase } (by simp) rfl
                | 8, _ => exact hd { on := 8, ground := .phase } (by simp) rfl
                | 9, _ => exact hd { on := 9, ground := .phase } (by simp) rfl
                | 10, _ => exact hd { on := 10, ground := .phase } (by simp) rfl
                | 11, _ => exact hd { on := 11, ground := .phase } (by simp) rfl
                | 12, _ => exact hd { on := 12, ground := .phase } (by simp) rfl
                | 13, _ => exact hd { on := 13, ground := .phase } (by simp) rfl
                | 14, _ => exact hd { on := 14, ground := .phase } (by simp) rfl
                | 15, _ => exact hd { on := 15, ground := .phase } (by simp) rfl
                | 16, _ => exact hd { on := 16, ground := .phase } (by simp) rfl
                | 17, _ => exact hd { on := 17, ground := .phase } (by simp) rfl
                | 18, _ => exact hd { on := 18, ground := .phase } (by simp) rfl
                | 19, _ => exact hd { on := 19, ground := .phase } (by simp) rfl
                | 20, _ => exact hd { on := 20, ground := .phase } (by simp) rfl
                | 21, _ => exact hd { on := 21, ground := .phase } (by simp) rfl
                | 22, _ => exact hd { on := 22, ground := .data } (by simp) rfl
                | n + 23, hn => exact absurd hn (by omega)
              rw [dpW_one (hall 21 (by omega)) hii] at hw
              subst hw
              replace hall : Hid _ := hall
              refine wpOpIn_step rfl (fun K hK => ?_)
              go_simp
              exact hK _ _ (dpI.next (i := 23) (v := undef) hs hx h21 h23 (by omega) (by simp [e22, e19]) (fun h => absurd h (by omega)) (by rw [dpW_two (set_same (by omega))]; first | done | rfl) (fun h => absurd h (by omega)) (fun _ => hall.out))
            | n + 24, hn => exact absurd hn (by show ¬ n + 24 < 24; omega)
          · rintro ls Ac wq ⟨hs, ⟨xv, rfl, hx⟩, hw, h21, h23⟩ hr
            have g0 : ls.getD 0 false = true := ready_nil hr (i := 0) rfl hs (by simp [Region.binds])
            have g1 : ls.getD 1 false = true := ready_nil hr (i := 1) rfl hs (by simp [Region.binds])
            have g2 : ls.getD 2 false = true := ready_nil hr (i := 2) rfl hs (by simp at g1; simp [Region.binds, g1])
            have g3 : ls.getD 3 false = true := ready_nil hr (i := 3) rfl hs (by simp at g2; simp [Region.binds, g2])
            have g4 : ls.getD 4 false = true := ready_nil hr (i := 4) rfl hs (by simp at g3; simp [Region.binds, g3])
            have g5 : ls.getD 5 false = true := ready_nil hr (i := 5) rfl hs (by simp [Region.binds])
            have g6 : ls.getD 6 false = true := ready_nil hr (i := 6) rfl hs (by simp [Region.binds])
            have g7 : ls.getD 7 false = true := ready_nil hr (i := 7) rfl hs (by simp at g6; simp [Region.binds, g6])
            have g8 : ls.getD 8 false = true := ready_nil hr (i := 8) rfl hs (by simp at g7; simp [Region.binds, g7])
            have g9 : ls.getD 9 false = true := ready_nil hr (i := 9) rfl hs (by simp at g8; simp [Region.binds, g8])
            have g10 : ls.getD 10 false = true := ready_nil hr (i := 10) rfl hs (by simp [Region.binds])
            have g11 : ls.getD 11 false = true := ready_nil hr (i := 11) rfl hs (by simp [Region.binds])
            have g12 : ls.getD 12 false = true := ready_nil hr (i := 12) rfl hs (by simp at g10 g11; simp [Region.binds, g10, g11])
            have g13 : ls.getD 13 false = true := ready_nil hr (i := 13) rfl hs (by simp at g12; simp [Region.binds, g12])
            have g14 : ls.getD 14 false = true := ready_nil hr (i := 14) rfl hs (by simp at g13; simp [Region.binds, g13])
            have g15 : ls.getD 15 false = true := ready_nil hr (i := 15) rfl hs (by simp [Region.binds])
            have g16 : ls.getD 16 false = true := ready_nil hr (i := 16) rfl hs (by simp [Region.binds])
            have g17 : ls.getD 17 false = true := ready_nil hr (i := 17) rfl hs (by simp at g15 g16; simp [Region.binds, g15, g16])
            have g18 : ls.getD 18 false = true := ready_nil hr (i := 18) rfl hs (by simp at g17; simp [Region.binds, g17])
            have g19 : ls.getD 19 false = true := ready_nil hr (i := 19) rfl hs (by simp at g18; simp [Region.binds, g18])
            have g20 : ls.getD 20 false = true := ready_nil hr (i := 20) rfl hs (by simp at g0 g4 g1 g2 g3 g9 g10 g11 g12 g13 g14 g18; simp [Region.binds, g0, g4, g1, g2, g3, g9, g10, g11, g12, g13, g14, g18])
            have g21 : ls.getD 21 false = true := ready_nil hr (i := 21) rfl hs (by simp at g20 g14 g0 g1 g2 g3 g4 g9 g10 g11 g12 g13 g18; simp [Region.binds, g20, g14, g0, g1, g2, g3, g4, g9, g10, g11, g12, g13, g18])
            have g22 : ls.getD 22 false = true := ready_nil hr (i := 22) rfl hs (by simp at g0 g1 g2 g3 g4 g5 g6 g7 g8 g9 g10 g11 g12 g13 g14 g15 g16 g17 g18 g19 g20 g21; simp [Region.binds, g0, g1, g2, g3, g4, g5, g6, g7, g8, g9, g10, g11, g12, g13, g14, g15, g16, g17, g18, g19, g20, g21])
            have g23 : ls.getD 23 false = true := ready_nil hr (i := 23) rfl hs (by simp at g0 g1 g2 g3 g4 g5 g6 g7 g8 g9 g10 g11 g12 g13 g14 g15 g16 g17 g18 g19 g20 g21 g22; simp [Region.binds, g0, g1, g2, g3, g4, g5, g6, g7, g8, g9, g10, g11, g12, g13, g14, g15, g16, g17, g18, g19, g20, g21, g22])
            rw [dpW_two g23] at hw
            exact ⟨rfl, hw⟩
        · rintro e a' w' ⟨rfl, rfl⟩
          have nA := fun v => neq_set W1.drew w2.heap.size ai v
          have nB := fun v v' => neq_set (W1.drew.setCell ⟨w2.heap.size, ai, none⟩ v) w2.heap.size bi v'
          have kk : ∀ g, g ≠ w2.heap.size → ((W1.drew.setCell ⟨w2.heap.size, ai, none⟩ (.int .i64 ((X : Int) + 1))).setCell ⟨w2.heap.size, bi, none⟩ (.int .i64 ((X : Int) + 1))).heap[g]? = W1.heap[g]? := fun g hg => (nB _ _ g hg).trans (nA _ g hg)
          have szW : ((W1.drew.setCell ⟨w2.heap.size, ai, none⟩ (.int .i64 ((X : Int) + 1))).setCell ⟨w2.heap.size, bi, none⟩ (.int .i64 ((X : Int) + 1))).heap.size = W1.heap.size := by simp
          have kg : ∀ g, g ≠ w2.heap.size → g ≠ w2.heap.size + 1 + 1 → ((W1.drew.setCell ⟨w2.heap.size, ai, none⟩ (.int .i64 ((X : Int) + 1))).setCell ⟨w2.heap.size, bi, none⟩ (.int .i64 ((X : Int) + 1))).heap[g]? = W.heap[g]? := fun g h1 h2 => (kk g h1).trans (ne1 g h2)
          have hrow : RowI ((W1.drew.setCell ⟨w2.heap.size, ai, none⟩ (.int .i64 ((X : Int) + 1))).setCell ⟨w2.heap.size, bi, none⟩ (.int .i64 ((X : Int) + 1))) w2.heap.size (((dfold (shp L) L.length (nums pre)).1.set ai (X + 1)).set bi (X + 1)) := RBB
          gi_wp2_with fail
          unfold postT
          refine ⟨⟨kg _ (by omega) (by omega), kg _ (by omega) (by omega)⟩, ⟨st1.1.1, st1.1.2.1, st1.1.2.2, by rw [szW]; omega, fun g hg h => kg g (by rcases h with h | h; omega; have := hC.tb g h; omega) (by rcases h with h | h; omega; have := hC.tb g h; omega)⟩, ?_⟩
          refine ⟨by rw [HF.out]; exact hrow, (kk _ (by omega)).trans bx1, by rw [HF.out]; exact (kk _ (by omega)).trans gr1, hC.tb, ?_, by rw [szW]; omega⟩
          exact ⟨st1.1.1.trans hbe.os, st1.1.2.1.trans hbe.tape, st1.1.2.2.trans hbe.output, by have := hbe.size; rw [szW]; omega, fun g hg => (kg g (by omega) (by omega)).trans (hbe.block g hg)⟩
  case done =>
    rintro xs T W hxs hC hD
    have t3 : W.cell? ⟨w2.heap.size + 1 + 1, 0, none⟩ = some (.int .i64 ((dep (shp L) L.length : Nat) : Int)) := by
      rw [cell_of_row W _ 0 _ 3 (0, 0) hC.gr, hxs]; rfl
    obtain ⟨V, hV⟩ : ∃ V, dep (shp L) L.length = V := ⟨_, rfl⟩
    rw [hV] at t3
    replace hV : Hid _ := hV
    rw [sA] at hD ⊢
    gi_wp2_with fail
    refine ⟨by simp, .inl ⟨_, _, rfl, run_takeDeferred hD, ?_⟩⟩
    refine ⟨_, results_tmp2 rfl _ _ _, by rw [hV.out]; rfl, ?_⟩
    have hb1 : Below w.heap.size w W := Below.trans (show Below w.heap.size w w2 from k02) ((Below.mono D3.be (by omega)).trans (Below.mono hC.be (by omega)))
    exact hb1.trans (belowK_b (w := w) (Nat.le_refl _) W (w2.heap.size + 4) _ _ (by omega) hD rfl rfl)
set_option maxRecDepth 100000 in
set_option maxHeartbeats 2000000 in
theorem Depth_err (n : Nat) (hn : 3 ≤ n) (a : Option Addr) (cap : Nat) (out : Int) (L : List Nd) (hLn : L.length ≤ 2199023255552) (hE : shE L ≠ 0) (w : World) (hrd : RdN w a L) :
    CallsIn Fence.wide n Try.prog 17 #[.agg #[.int .i64 out, .slice a L.length cap]] w fun e w' => e = .returned (.tuple #[.int .i64 0, .int .i64 (shE L)]) ∧ Keep w w' := by
  have h1 : 1 ≤ n := by omega
  have hS := fun (wx : World) (k : Keep w wx) => Shape_in (n - 1) wx a cap out L hLn (hrd.keep k)
  refine callsIn_of_wp_marks Try.func17 rfl trivial ?_ rfl
  simp only [Try.ntmps17, List.size_toArray, List.length_cons, List.length_nil, Nat.reduceAdd, Nat.reduceSub, Array.replicate_succ, Array.replicate_zero, List.push_toArray, List.append_toArray, List.nil_append, List.cons_append]
  have k0 : Keep w (w.alloc (Obj.cells #[Value.int IntKind.i64 out, Value.slice a L.length cap] 24)) := (Keep.refl w).alloc _
  have hS1 := hS _ k0
  have hB : (shE L == 0) = false := by simpa using hE
  have hB2 : (shE L != 0) = true := by simpa using hE
  clear hE
  generalize shE L = E at hB hB2 hS1 ⊢
  gi_wp2_with fail
  generalize w.alloc _ = w1 at k0 hS1 ⊢
  refine ⟨trivial, ?_⟩
  refine hS1.mono ?_
  rintro e w2 ⟨rfl, k2⟩
  gi_wp2_with fail
  exact ⟨_, results_tmp2 rfl _ _ _, rfl, k0.trans k2⟩
/-- What Depth answers. -/
def dpA (L : List Nd) : Nat := if shE L = 0 then dep (shp L) L.length else 0
theorem Depth_any (a : Option Addr) (cap : Nat) (out : Int) (L : List Nd) (hLn : L.length ≤ 2199023255552) (w : World) (hrd : RdN w a L) :
    Calls Try.prog 17 #[.agg #[.int .i64 out, .slice a L.length cap]] w fun e w' => e = .returned (.tuple #[.int .i64 (dpA L : Nat), .int .i64 (shE L)]) ∧ Keep w w' := by
  by_cases hE : shE L = 0
  · have e1 : dpA L = dep (shp L) L.length := by unfold dpA; rw [if_pos hE]
    rw [e1, hE]
    exact (callsIn_wide (n := 3)).1 (Depth_in 3 (by omega) a cap out L hLn hE w hrd)
  · have e1 : dpA L = 0 := by unfold dpA; rw [if_neg hE]
    rw [e1]
    exact (callsIn_wide (n := 3)).1 (Depth_err 3 (by omega) a cap out L hLn hE w hrd)
end Go.Proofs.Ytbchinfmdioijaa

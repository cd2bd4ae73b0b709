import Derived.Test.YtbchinfmdioijaaW3
set_option linter.unusedVariables false
set_option linter.unusedSimpArgs false
namespace Go.Proofs.Ytbchinfmdioijaa
open Go.RowKit Go.Shelf
attribute [local go_sem] Oper.semAt_some
/-- A list that is gathered in a box while an iterator runs. -/
structure ColR (Bl Bs R : Nat) (w3 : World) (l : List Nat) (T : Nat → Prop) (W : World) : Prop where
  box : ∃ v, W.heap[Bl]? = some (.cells #[v] 29 (0, 0)) ∧ OwnI W v l ∧ ∀ b, v.ownBlock = some b → ¬ T b ∧ R + 2 ≤ b
  tb : ∀ g, T g → Bs ≤ g ∧ g < W.heap.size
  be : Below Bl w3 W
  sz : R ≤ W.heap.size
theorem ColR.st {Bl Bs R : Nat} {w3 : World} {l : List Nat} {T : Nat → Prop} {A B : World} (hB : Bl < Bs) (hBR : Bs ≤ R) (h : ColR Bl Bs R w3 l T A) (hst : Stp T A B) : ColR Bl Bs R w3 l (more T A B) B := by
  obtain ⟨⟨v, h1, h2, h3⟩, h4, h5, h6⟩ := h
  have kp : ∀ g, g < Bs → g < A.heap.size → B.heap[g]? = A.heap[g]? := fun g hg hz => hst.block g hz (fun h => by have := h4 g h; omega)
  refine ⟨⟨v, ?_, ?_, ?_⟩, ?_, ?_, by have := hst.size; omega⟩
  · rw [kp Bl hB (by omega)]; exact h1
  · refine h2.same (fun b hb => ?_)
    obtain ⟨cur, hc⟩ := h2.block hb
    exact hst.block b (Array.getElem?_eq_some_iff.1 hc).1 (h3 b hb).1
  · intro b hb
    obtain ⟨cur, hc⟩ := h2.block hb
    have hlt := (Array.getElem?_eq_some_iff.1 hc).1
    refine ⟨?_, (h3 b hb).2⟩
    rintro (h | h)
    · exact (h3 b hb).1 h
    · omega
  · rintro g (h | h)
    · have := h4 g h; have := hst.size; omega
    · omega
  · exact ⟨hst.os.trans h5.os, hst.tape.trans h5.tape, hst.output.trans h5.output, by have := hst.size; have := h5.size; omega, fun g hg => (kp g (by omega) (by omega)).trans (h5.block g hg)⟩
theorem ColR.put {Bl Bs R : Nat} {w3 : World} {l : List Nat} {T : Nat → Prop} {A : World} {r : Nat} {o' : Obj} (hB : Bl < Bs) (hBR : Bs ≤ R) (h : ColR Bl Bs R w3 l T A) (h1 : R ≤ r) (h2 : r < R + 2) : ColR Bl Bs R w3 l T (A.putObj r o') := by
  obtain ⟨⟨v, q1, q2, q3⟩, q4, q5, q6⟩ := h
  have kp : ∀ g, g ≠ r → (A.putObj r o').heap[g]? = A.heap[g]? := fun g hg => World.putObj_heap_other hg
  refine ⟨⟨v, ?_, ?_, q3⟩, by simpa using q4, ?_, by simpa using q6⟩
  · rw [kp _ (by omega)]; exact q1
  · exact q2.same (fun b hb => kp b (by have := (q3 b hb).2; omega))
  · exact ⟨q5.os, q5.tape, q5.output, by simpa using q5.size, fun g hg => (kp g (by omega)).trans (q5.block g hg)⟩
/-- One more. -/
theorem ColR.app {Bl Bs R : Nat} {w3 : World} {l : List Nat} {T : Nat → Prop} {A B : World} {o : Obj} {v v' : Value} {x : Nat} (hB : Bl < Bs) (hBR : Bs ≤ R) (h : ColR Bl Bs R w3 l T A) (hz : R + 2 ≤ A.heap.size) (hbox : A.heap[Bl]? = some (.cells #[v] 29 (0, 0))) (hv3 : ∀ b, v.ownBlock = some b → ¬ T b ∧ R + 2 ≤ b)
    (ho : OwnI B v' (l ++ [x])) (hgr : (A.alloc o).grownBy B v.ownBlock) (hsep : v'.ownBlock = v.ownBlock ∨ v'.ownBlock = some (A.heap.size + 1)) :
    ColR Bl Bs R w3 (l ++ [x]) T (B.setCell ⟨Bl, 0, none⟩ v') ∧ (∀ g, g < A.heap.size → g ≠ Bl → v.ownBlock ≠ some g → (B.setCell ⟨Bl, 0, none⟩ v').heap[g]? = A.heap[g]?) ∧ B.cell? ⟨Bl, 0, none⟩ = some v ∧ B.frozen? ⟨Bl, 0, none⟩ = false ∧ A.heap.size ≤ B.heap.size := by
  have hb : Below A.heap.size A (A.alloc o) := (Below.refl A.heap.size A).alloc (Nat.le_refl _) o
  have kB : ∀ g, g < A.heap.size → v.ownBlock ≠ some g → B.heap[g]? = A.heap[g]? := fun g hg hne => by rw [hgr.block g (Nat.lt_of_lt_of_le hg hb.size) (fun e => hne e.symm), hb.block g hg]
  have hBl : v.ownBlock ≠ some Bl := fun e => by have := (hv3 Bl e).2; omega
  have boxB : B.heap[Bl]? = some (.cells #[v] 29 (0, 0)) := by rw [kB Bl (by omega) hBl]; exact hbox
  have szB : A.heap.size ≤ B.heap.size := Nat.le_trans hb.size hgr.size
  have ne := neq_set B Bl 0 v'
  have vlt : ∀ b, v'.ownBlock = some b → ¬ T b ∧ R + 2 ≤ b := by
    intro b e
    rcases hsep with e2 | e2
    · rw [e2] at e; exact hv3 b e
    · rw [e2] at e
      simp only [Option.some.injEq] at e
      subst e
      exact ⟨fun h' => by have := h.tb _ h'; omega, by omega⟩
  refine ⟨⟨⟨v', ?_, ?_, vlt⟩, fun g hg => by have := h.tb g hg; simp; omega, ?_, by simp; omega⟩, ?_, ?_, ?_, szB⟩
  · exact heap_setCell_same B Bl 0 _ 29 v' boxB
  · exact ho.same (fun b e => ne b (by have := (vlt b e).2; omega))
  · have h5 := h.be
    exact ⟨hgr.os.trans (hb.os.trans h5.os), hgr.tape.trans (hb.tape.trans h5.tape), hgr.output.trans (hb.output.trans h5.output), by have := h5.size; simp; omega, fun g hg => by rw [ne g (by omega), kB g (by omega) (fun e => by have := (hv3 g e).2; omega)]; exact h5.block g hg⟩
  · intro g hg h1 h2; rw [ne g h1]; exact kB g hg h2
  · rw [cell_of_row B Bl 0 _ 29 (0, 0) boxB]; rfl
  · exact frozen_of_row B Bl 0 _ 29 boxB
/-- What Way answers. -/
def wyE (L : List Nd) (m : Nat) : Int := if shE L = 0 then (if lackB L m then 72 else 0) else shE L
def wyL (L : List Nd) (xs : List Nat) : List Nat := if wyE L xs.length = 0 then way (shp L) (chs L xs) L.length else []
theorem news1 (W : World) (x : Nat) : ∀ j u, (UI [x])[j]? = some u → (W.alloc (Obj.cells #[Value.int .i64 (x : Nat)] 3)).cell? ((⟨W.heap.size, 0, none⟩ : Addr).add j) = some u := by
  intro j u hj
  match j, hj with
  | 0, hj => simp [UI] at hj; subst hj; simp [Addr.add]
  | j + 1, hj => simp [UI] at hj
/-- Three new boxes. -/
theorem boxes3 (w : World) (u v x : Value) (t1 t2 t3 : Nat) : ∃ w4, ((w.alloc (Obj.cells #[u] t1)).alloc (Obj.cells #[v] t2)).alloc (Obj.cells #[x] t3) = w4 ∧ Keep w w4 ∧ w4.heap.size = w.heap.size + 3 ∧
    w4.heap[w.heap.size]? = some (Obj.cells #[u] t1 (0, 0)) ∧ w4.heap[w.heap.size + 1]? = some (Obj.cells #[v] t2 (0, 0)) ∧ w4.heap[w.heap.size + 1 + 1]? = some (Obj.cells #[x] t3 (0, 0)) := by
  refine ⟨_, rfl, (((Keep.refl w).alloc _).alloc _).alloc _, by simp, ?_, ?_, ?_⟩
  · exact (Below.heap_alloc _ _ _ (by simp; omega)).trans ((Below.heap_alloc _ _ _ (by simp)).trans (heap_alloc_new w _))
  · have := heap_alloc_new (w.alloc (Obj.cells #[u] t1)) (Obj.cells #[v] t2)
    rw [World.size_alloc] at this
    exact (Below.heap_alloc _ _ _ (by simp)).trans this
  · have := heap_alloc_new ((w.alloc (Obj.cells #[u] t1)).alloc (Obj.cells #[v] t2)) (Obj.cells #[x] t3)
    rw [World.size_alloc, World.size_alloc] at this
    exact this
set_option maxRecDepth 100000 in
set_option maxHeartbeats 2000000 in
theorem Way_in (n : Nat) (hn : 3 ≤ n) (a ax : Option Addr) (cap cx : Nat) (out : Int) (L : List Nd) (xs : List Nat) (hLn : L.length ≤ 2199023255552) (hxl : xs.length ≤ 17592186044416) (hE : shE L = 0) (hlk : lackB L xs.length = false) (w : World) (hrd : RdN w a L) (hxd : RdF w ax xs) :
    CallsIn Fence.wide n Try.prog 24 #[.agg #[.int .i64 out, .slice a L.length cap], .slice ax xs.length cx] w fun e w' => ∃ v, e = .returned (.tuple #[v, .int .i64 0]) ∧ OwnI w' v (way (shp L) (chs L xs) L.length) ∧ (∀ b, v.ownBlock = some b → w.heap.size ≤ b) ∧ Below w.heap.size w w' := by
  have h1 : 1 ≤ n := by omega
  have hS := fun (wx : World) (k : Keep w wx) => Shape_in (n - 1) wx a cap out L hLn (hrd.keep k)
  have hLk := fun (wx : World) (k : Keep w wx) => lacks_any a ax cap xs.length cx L hLn wx (hrd.keep k)
  rw [hE] at hS
  rw [hlk] at hLk
  refine callsIn_of_wp_marks Try.func24 rfl trivial ?_ rfl
  simp only [Try.ntmps24, List.size_toArray, List.length_cons, List.length_nil, Nat.reduceAdd, Nat.reduceSub, Array.replicate_succ, Array.replicate_zero, List.push_toArray, List.append_toArray, List.nil_append, List.cons_append]
  have k0 : Keep w (w.alloc (Obj.cells #[Value.int IntKind.i64 out, Value.slice a L.length cap] 24)) := (Keep.refl w).alloc _
  have c1 : (w.alloc (Obj.cells #[Value.int IntKind.i64 out, Value.slice a L.length cap] 24)).cell? ⟨w.heap.size, 1, none⟩ = some (.slice a L.length cap) := by
    rw [cell_of_row _ _ 1 _ 24 (0, 0) (heap_alloc_new w _)]; rfl
  have hSz : (w.alloc (Obj.cells #[Value.int IntKind.i64 out, Value.slice a L.length cap] 24)).heap.size = w.heap.size + 1 := by simp
  have hS1 := hS _ k0
  gi_wp2_with fail
  generalize w.alloc _ = w1 at k0 c1 hS1 hSz ⊢
  refine ⟨trivial, ?_⟩
  refine hS1.mono ?_
  rintro e w2 ⟨rfl, k2⟩
  have c1 := k2.cell c1
  have k02 := k0.trans k2
  have z2 : w.heap.size + 1 ≤ w2.heap.size := by have := k2.le; omega
  clear hS hS1 k2 hSz
  gi_wp2_with fail
  refine ⟨trivial, ?_⟩
  refine (callsIn_wide.2 (hLk _ k02)).mono ?_
  rintro e w3 ⟨rfl, k3⟩
  have c1 := k3.cell c1
  have k03 := k02.trans k3
  have z3 : w.heap.size + 1 ≤ w3.heap.size := by have := k3.le; omega
  clear hLk k02 k3
  have c1A := fun o => ((Keep.refl w3).alloc o).cell c1
  gi_wp2_with (refine ⟨trivial, ?_⟩; gi_at_call 57; refine (down_in (n - 1) _ _ _ _ _ _ _).mono ?_; rintro e w' ⟨rfl, rfl⟩)
  obtain ⟨w4, hw4, kA, sA, lA, bA, xA⟩ := boxes3 w3 (Value.slice none 0 0) (Value.slice a L.length cap) (Value.slice ax xs.length cx) 29 22 43
  rw [hw4]
  clear hw4 c1A
  have bA' : w4.cell? ⟨w3.heap.size + 1, 0, none⟩ = some (.slice a L.length cap) := by rw [cell_of_row _ _ 0 _ 22 (0, 0) bA]; rfl
  have xA' : w4.cell? ⟨w3.heap.size + 1 + 1, 0, none⟩ = some (.slice ax xs.length cx) := by rw [cell_of_row _ _ 0 _ 43 (0, 0) xA]; rfl
  refine wp_rangeT h1 (gf := 80) (lb := #[.pointer (some ⟨w3.heap.size + 1, 0, none⟩), .pointer (some ⟨w3.heap.size + 1 + 1, 0, none⟩)]) rfl (enters_of Try.func80 (by kernel_rfl) rfl)
    (down_seq (n - 1) (by omega) (w3.heap.size + 1) (w3.heap.size + 1 + 1) a ax cap cx L xs hLn hxl hE hlk w w4 bA' xA' (by omega) (by omega) (k03.trans kA) hrd hxd) (Below.refl _ _) (fun _ => rfl) (by omega) (fun g hg => by omega)
    (fun pre T W => ColR w3.heap.size (w3.heap.size + 1) (w3.heap.size + 3) w4 (nums pre) T W)
    (fun _ _ _ => False) (fun pre T A B h hst => h.st (by omega) (by omega) hst) (fun pre T A r o' h h1 h2 h3 => h.put (by omega) (by omega) (by omega) (by omega)) (fun _ _ _ _ _ h => h.elim) ?start ?a1 ?assign ?body ?done (fun _ _ _ _ h => h.elim)
  case assign =>
    intro l x W K hK
    gi_wp2
    exact hK
  case start =>
    intro W hst
    have kp : ∀ g, g < w3.heap.size + 3 → W.heap[g]? = w4.heap[g]? := fun g hg => hst.block g (by omega) (fun h => h)
    refine ⟨⟨.slice none 0 0, by rw [kp _ (by omega)]; exact lA, OwnI.nil _, fun b hb => by cases hb⟩, fun g hg => by have := hst.size; omega, ?_, by have := hst.size; omega⟩
    exact ⟨hst.os, hst.tape, hst.output, by have := hst.size; omega, fun g hg => kp g (by omega)⟩
  case body =>
    rintro l pre ⟨x, hx⟩ T W hC hpl hT hsz
    have hbe := hC.be
    obtain ⟨v, q1, q2, q3⟩ := hC.box
    have t3 : W.cell? ⟨w3.heap.size, 0, none⟩ = some v := by rw [cell_of_row W _ 0 _ 29 (0, 0) q1]; rfl
    have hnum : nums (pre ++ [⟨x, hx⟩]) = nums pre ++ [x] := by simp [nums]
    have h12 : 1 ≤ n - 1 - 1 := by omega
    have hlf : (nums pre).length + 1 ≤ 17592186044416 := by simp [nums]; omega
    generalize nums pre = fl at hC q2 hnum hlf
    simp only at *
    gi_wp2_with (gi_at_builtin; refine wpListIn_appI _ rfl _ _ rfl fl [x] v rfl (World.ownsRow.alloc q2 _) ⟨W.heap.size, 0, none⟩ 1 1 rfl rfl (by simp) ?_ hlf ?_)
    · exact news1 W x
    · intro v' w5 ho hgr hsep
      obtain ⟨r1, r2, r3, r4, r5⟩ := ColR.app (by omega) (by omega) hC (by omega) q1 q3 ho hgr hsep
      obtain ⟨av', cv', rfl, hcv'⟩ := ho.shape
      rw [show (fl ++ [x]).length = fl.length + 1 by simp] at r1 r2
      clear ho hgr hsep
      gi_wp2_with fail
      unfold postT
      refine ⟨⟨r2 _ ?_ ?_ ?_, r2 _ ?_ ?_ ?_⟩, ⟨r1.be.os.trans hbe.os.symm, r1.be.tape.trans hbe.tape.symm, r1.be.output.trans hbe.output.symm, by simp; exact r5, fun g hg h => r2 g hg ?_ ?_⟩, ?_⟩
      all_goals first | omega | (intro e; have := (q3 _ e).2; omega) | skip
      · intro e
        rcases h with h | h
        · omega
        · have := (hC.tb g h).1; omega
      · intro e
        have := q3 g e
        rcases h with h | h
        · omega
        · exact this.1 h
      · show ColR _ _ _ _ _ _ _
        rw [hnum]
        exact r1
  case done =>
    rintro xs' T W hxs hC hD
    rw [hxs] at hC
    obtain ⟨v, q1, q2, q3⟩ := hC.box
    have t3 : W.cell? ⟨w3.heap.size, 0, none⟩ = some v := by rw [cell_of_row W _ 0 _ 29 (0, 0) q1]; rfl
    rw [sA] at hD ⊢
    gi_wp2_with fail
    refine ⟨by simp, .inl ⟨_, _, rfl, run_takeDeferred hD, ?_⟩⟩
    refine ⟨_, results_tmp2 rfl _ _ _, v, rfl, q2.same (fun b hb => World.putObj_heap_other (by have := (q3 b hb).2; omega)), fun b hb => by have := (q3 b hb).2; omega, ?_⟩
    have hb1 : Below w.heap.size w W := Below.trans (show Below w.heap.size w w3 from k03) ((Below.mono kA k03.size).trans (Below.mono hC.be (by omega)))
    exact hb1.trans (belowK_b (w := w) (Nat.le_refl _) W (w3.heap.size + 3) _ _ (by omega) hD rfl rfl)
end Go.Proofs.Ytbchinfmdioijaa

import Derived.Test.YteonapeoeckhfaaDoorJ4
set_option linter.unusedVariables false
set_option linter.unusedSimpArgs false
namespace Go.Proofs.YteonapeoeckhfaaDoor
open Go.RowKit Go.Shelf
theorem heapTwo (w : World) (g T : Nat) {x0 x1 : Value} (v0 v1 : Value) (h : w.heap[g]? = some (.cells #[x0, x1] T (0, 0))) :
    ((w.setCell ⟨g, 0, none⟩ v0).setCell ⟨g, 1, none⟩ v1).heap[g]? = some (.cells #[v0, v1] T (0, 0)) := by
  have a0 := heap_setCell_same w g 0 _ T v0 h
  have a1 := heap_setCell_same _ g 1 _ T v1 a0
  exact a1
set_option maxRecDepth 100000 in
set_option maxHeartbeats 4000000 in
theorem catch_panicking (g why at_ : Nat) (older : List PanicEntry) (w : World) {x y : Value} (h : w.heap[g]? = some (.cells #[x, y] 50 (0, 0))) :
    CallsD Tryd.prog 44 #[.pointer (some ⟨g, 0, none⟩)] (.panicking (PE why at_ :: older)) w fun e u' w' =>
      e = .returned (.tuple #[]) ∧ u' = .panicking ({ PE why at_ with recovered := true } :: older) ∧ w'.heap[g]? = some (.cells #[.int .i64 (why : Int), .int .i64 (at_ : Int)] 50 (0, 0)) ∧ Kb g w w' := by
  have hta : ∀ (v : Value) (wx : World), (Instr.typeAssert (.iface 50 v) 20 50 true).run Tryd.prog wx = .ok (.tuple #[v, .bool true]) wx := fun _ _ => by kernel_rfl
  refine callsD_of_wpS Tryd.func44 rfl fun c₀ cs hu => ?_
  apply wpS_seq
  apply wpS_region
  simp [wpOpsS, go_sem, recoverD, hu, Tryd.ntmps44, Exit.thenS, PE]
  refine wpS_of_wp ?_
  change Code.wp Tryd.prog _ _ { tmps := #[.pointer (some ⟨g, 0, none⟩), undef, undef, undef, .iface 50 (.agg #[.int .i64 (why : Int), .int .i64 (at_ : Int)]), undef, undef, undef, undef, undef, undef], defers := [] } w
  have g0 := cell_of_row w g 0 _ 50 (0, 0) h
  have g1 := cell_of_row w g 1 _ 50 (0, 0) h
  have z0 := frozen_of_row w g 0 _ 50 h
  have z1 := frozen_of_row w g 1 _ 50 h
  have hlt := (Array.getElem?_eq_some_iff.1 h).1
  go_wp2
  have q := heapTwo w g 50 (.int .i64 (why : Int)) (.int .i64 (at_ : Int)) h
  have kk := ((Kb.refl g w).set 0 (.int .i64 (why : Int))).set 1 (.int .i64 (at_ : Int))
  generalize (w.setCell ⟨g, 0, none⟩ (.int .i64 (why : Int))).setCell ⟨g, 1, none⟩ (.int .i64 (at_ : Int)) = w2 at q kk ⊢
  have ka := (Keep.refl w2).alloc (Obj.cells #[.int .i64 (why : Int), .int .i64 (at_ : Int)] 50)
  exact ⟨rfl, _, rfl, _, results_none rfl _ _ _, rfl, rfl, ka.at q, kk.trans (ka.kb g)⟩
set_option maxRecDepth 100000 in
set_option maxHeartbeats 4000000 in
theorem catch_idle (g : Nat) (w : World) :
    CallsD Tryd.prog 44 #[.pointer (some ⟨g, 0, none⟩)] .returning w fun e u' w' => e = .returned (.tuple #[]) ∧ u' = .returning ∧ w' = w := by
  refine callsD_of_wpS Tryd.func44 rfl fun c₀ cs hu => ?_
  apply wpS_seq
  apply wpS_region
  simp [wpOpsS, go_sem, recoverD, hu, Tryd.ntmps44, Exit.thenS]
  refine wpS_of_wp ?_
  change Code.wp Tryd.prog _ _ { tmps := #[.pointer (some ⟨g, 0, none⟩), undef, undef, undef, .nilIface, undef, undef, undef, undef, undef, undef], defers := [] } w
  go_wp2
  cases c₀
  simp_all [bodyPostS, results, Tryd.results44]
/-- What a closure does whose end is no fault, and what one does that gives up. -/
def DoOk (D : Nat) (cap : Array Value) (w : World) (R : World → World → Prop) : Prop :=
  ∀ wx, Keep w wx → Calls Tryd.prog D cap wx fun e w' => e = .returned (.tuple #[]) ∧ R wx w'
def DoBad (D : Nat) (cap : Array Value) (w : World) (why at_ : Nat) (R : World → World → Prop) : Prop :=
  ∀ wx, Keep w wx → Calls Tryd.prog D cap wx fun e w' => e = .panicked [PE why at_] ∧ R wx w'
theorem results_f50 {fn : Func} {t : Tmp} (h : fn.results = #[.cell t 50]) (tmps : Array Value) (w : World) (g : Nat) (x y : Int) (hp : tmps.getD t undef = .pointer (some ⟨g, 0, none⟩)) (hh : w.heap[g]? = some (.cells #[.int .i64 x, .int .i64 y] 50 (0, 0))) :
    (results fn tmps).run Tryd.prog w = .ok (.agg #[.int .i64 x, .int .i64 y]) w := by
  have c0 := cell_of_row _ _ 0 _ 50 (0, 0) hh
  have c1 := cell_of_row _ _ 1 _ 50 (0, 0) hh
  simp only [List.getElem?_toArray, List.getElem?_cons_zero, List.getElem?_cons_succ] at c0 c1
  have hp' : (tmps[t]?).getD undef = .pointer (some ⟨g, 0, none⟩) := by simpa using hp
  simp [results, h, hp, hp', go_sem, c0, c1]
set_option maxRecDepth 100000 in
set_option maxHeartbeats 4000000 in
theorem caught_ok2 (D : Nat) (cap : Array Value) (w : World) (R : World → World → Prop) (hE : ∀ wx, (callFunc D cap).run Tryd.prog wx = .ok (.enter D cap) wx) (hD : DoOk D cap w R) (hf : ∀ wx w', Keep w wx → w.heap.size < wx.heap.size → wx.heap[w.heap.size]? = some (.cells #[.int .i64 0, .int .i64 0] 50 (0, 0)) → R wx w' → w'.heap[w.heap.size]? = wx.heap[w.heap.size]?) :
    Calls Tryd.prog 22 #[.func (.func D) #[] cap] w fun e w' => e = .returned (.agg #[.int .i64 0, .int .i64 0]) ∧ ∃ w1 w2, Keep w w1 ∧ R w1 w2 ∧ Kb w.heap.size w2 w' ∧ w2.heap[w.heap.size]? = some (.cells #[.int .i64 0, .int .i64 0] 50 (0, 0)) := by
  have hmf : ∀ (fn : Fn) (first cap : Array Value) (w : World), (Instr.makeFunc fn first cap).run Tryd.prog w = .ok (.func fn first cap) w := fun _ _ _ _ => rfl
  have ka := (Keep.refl w).alloc (Obj.cells #[.int .i64 0, .int .i64 0] 50)
  have hb := heap_alloc_new w (Obj.cells #[.int .i64 0, .int .i64 0] 50)
  have hz : w.heap.size < (w.alloc (Obj.cells #[.int .i64 0, .int .i64 0] 50)).heap.size := by simp
  go_enter_defers Tryd.func22, Tryd.ntmps22
  go_wp2_with fail
  refine (hD _ ka).mono ?_
  rintro e w2 ⟨rfl, hR⟩
  have hb2 : w2.heap[w.heap.size]? = some (.cells #[.int .i64 0, .int .i64 0] 50 (0, 0)) := (hf _ _ ka hz hb hR).trans hb
  have g0 := cell_of_row w2 _ 0 _ 50 (0, 0) hb2
  have g1 := cell_of_row w2 _ 1 _ 50 (0, 0) hb2
  have z0 := frozen_of_row w2 _ 0 _ 50 hb2
  have z1 := frozen_of_row w2 _ 1 _ 50 hb2
  go_wp2_with fail
  refine leaves_cons (f := 44) (args := #[.pointer (some ⟨w.heap.size, 0, none⟩)]) (by simp) (by simp [go_sem]) ?_
  refine (catch_idle w.heap.size _).mono ?_
  rintro e u' w'' ⟨rfl, rfl, rfl⟩
  have q := heapTwo w2 _ 50 (.int .i64 0) (.int .i64 0) hb2
  have kk := ((Kb.refl w.heap.size w2).set 0 (.int .i64 0)).set 1 (.int .i64 0)
  exact ⟨_, results_f50 rfl _ _ _ 0 0 rfl q, rfl, _, w2, ka, hR, kk, hb2⟩
theorem caught_ok (D : Nat) (cap : Array Value) (w : World) (R : World → World → Prop) (hE : ∀ wx, (callFunc D cap).run Tryd.prog wx = .ok (.enter D cap) wx) (hD : DoOk D cap w R) (hf : ∀ wx w', Keep w wx → w.heap.size < wx.heap.size → wx.heap[w.heap.size]? = some (.cells #[.int .i64 0, .int .i64 0] 50 (0, 0)) → R wx w' → w'.heap[w.heap.size]? = wx.heap[w.heap.size]?) :
    Calls Tryd.prog 22 #[.func (.func D) #[] cap] w fun e w' => e = .returned (.agg #[.int .i64 0, .int .i64 0]) ∧ ∃ w1 w2, Keep w w1 ∧ R w1 w2 ∧ Kb w.heap.size w2 w' := by
  refine (caught_ok2 D cap w R hE hD hf).mono ?_
  rintro e w' ⟨he, w1, w2, k1, k2, k3, -⟩
  exact ⟨he, w1, w2, k1, k2, k3⟩
set_option maxRecDepth 100000 in
set_option maxHeartbeats 4000000 in
theorem caught_bad (D : Nat) (cap : Array Value) (w : World) (why at_ : Nat) (R : World → World → Prop) (hE : ∀ wx, (callFunc D cap).run Tryd.prog wx = .ok (.enter D cap) wx) (hD : DoBad D cap w why at_ R) (hf : ∀ wx w', Keep w wx → w.heap.size < wx.heap.size → wx.heap[w.heap.size]? = some (.cells #[.int .i64 0, .int .i64 0] 50 (0, 0)) → R wx w' → w'.heap[w.heap.size]? = wx.heap[w.heap.size]?) :
    Calls Tryd.prog 22 #[.func (.func D) #[] cap] w fun e w' => e = .returned (.agg #[.int .i64 (why : Int), .int .i64 (at_ : Int)]) ∧ ∃ w1 w2, Keep w w1 ∧ R w1 w2 ∧ Kb w.heap.size w2 w' := by
  have hmf : ∀ (fn : Fn) (first cap : Array Value) (w : World), (Instr.makeFunc fn first cap).run Tryd.prog w = .ok (.func fn first cap) w := fun _ _ _ _ => rfl
  have ka := (Keep.refl w).alloc (Obj.cells #[.int .i64 0, .int .i64 0] 50)
  have hb := heap_alloc_new w (Obj.cells #[.int .i64 0, .int .i64 0] 50)
  have hz : w.heap.size < (w.alloc (Obj.cells #[.int .i64 0, .int .i64 0] 50)).heap.size := by simp
  go_enter_defers Tryd.func22, Tryd.ntmps22
  go_wp2_with fail
  refine (hD _ ka).mono ?_
  rintro e w2 ⟨rfl, hR⟩
  have hb2 : w2.heap[w.heap.size]? = some (.cells #[.int .i64 0, .int .i64 0] 50 (0, 0)) := (hf _ _ ka hz hb hR).trans hb
  go_wp2_with fail
  refine leaves_cons (f := 44) (args := #[.pointer (some ⟨w.heap.size, 0, none⟩)]) (by simp) (by simp [go_sem]) ?_
  refine (catch_panicking w.heap.size why at_ [] _ hb2).mono ?_
  rintro e u' w'' ⟨rfl, rfl, q, kk⟩
  simp [Leaves, settle]
  exact ⟨_, results_f50 rfl _ _ _ _ _ rfl q, rfl, _, ka, w2, hR, kk⟩
end Go.Proofs.YteonapeoeckhfaaDoor

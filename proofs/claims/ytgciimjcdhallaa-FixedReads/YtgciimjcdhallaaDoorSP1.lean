import Derived.Test.YtgciimjcdhallaaDoorS4
import Derived.Deep.CutRange
set_option linter.unusedVariables false
set_option linter.unusedSimpArgs false
namespace Go.Proofs.YtgciimjcdhallaaDoor
open Go.RowKit Go.Shelf
/-- A box of eleven. -/
def Bk (w : World) (g : Nat) (v : Array Value) : Prop := w.heap[g]? = some (.cells v 43 (0, 0))
theorem Bk.cell {w : World} {g : Nat} {v : Array Value} (h : Bk w g v) (j : Nat) : w.cell? ⟨g, j, none⟩ = v[j]? := cell_of_row w g j v 43 (0, 0) h
theorem results_box11 {fn : Func} {t u : Tmp} (h : fn.results = #[.cell t 43, .tmp u]) (tmps : Array Value) (w : World) (g : Nat) (v0 v1 v2 v3 v4 v5 v6 v7 v8 v9 v10 : Value) (hp : tmps.getD t undef = .pointer (some ⟨g, 0, none⟩)) (hh : Bk w g #[v0, v1, v2, v3, v4, v5, v6, v7, v8, v9, v10]) :
    (results fn tmps).run Tryd.prog w = .ok (.tuple #[.agg #[v0, v1, v2, v3, v4, v5, v6, v7, v8, v9, v10], tmps.getD u undef]) w := by
  have c0 := hh.cell 0
  have c1 := hh.cell 1
  have c2 := hh.cell 2
  have c3 := hh.cell 3
  have c4 := hh.cell 4
  have c5 := hh.cell 5
  have c6 := hh.cell 6
  have c7 := hh.cell 7
  have c8 := hh.cell 8
  have c9 := hh.cell 9
  have c10 := hh.cell 10
  simp only [List.getElem?_toArray, List.getElem?_cons_zero, List.getElem?_cons_succ] at c0 c1 c2 c3 c4 c5 c6 c7 c8 c9 c10
  have hp' : (tmps[t]?).getD undef = .pointer (some ⟨g, 0, none⟩) := by simpa using hp
  simp [results, h, hp, hp', go_sem, c0, c1, c2, c3, c4, c5, c6, c7, c8, c9, c10]
theorem dg_cut (s : List UInt8) (k : Nat) : (s.take (k + (dg s k s.length).length)).drop k = dg s k s.length := by
  have e : dg s k s.length = (s.drop k).takeWhile isD := by
    unfold dg
    apply List.take_of_length_le
    have := (List.takeWhile_prefix (p := isD) (l := s.drop k)).length_le
    rw [List.length_drop] at this
    omega
  rw [List.drop_take, Nat.add_sub_cancel_left, e, ← tw_eq]
/-- The power's text. -/
def pwX (s : List UInt8) : List UInt8 := if qE s (oK s) then (s.take (oEnd s)).drop (oK s + 1) else []
/-- The power's text as Split says it. -/
def pwY (s : List UInt8) : List UInt8 := if oOk s then pwX s else []
/-- What Split answers. -/
def SpA (s : List UInt8) (T : Array Value) (V : Int) : Prop := T = txt false false false 0 0 false (pNg s) false (pWh s) (oPt s) (pwY s) ∧ (oGood s → V = -1) ∧ (¬ oGood s → V = (oEnd s : Int))
theorem sp_bad {s : List UInt8} {ng : Bool} {V : Int} (hn : pNg s = ng) (hg : ¬ oGood s) (hV : V = (oEnd s : Int)) {wh pt pw : List UInt8} (h1 : pWh s = wh) (h2 : oPt s = pt) (h3 : pwY s = pw) : SpA s (txt false false false 0 0 false ng false wh pt pw) V := ⟨by rw [hn, h1, h2, h3], fun a => absurd a hg, fun _ => hV⟩
theorem sp_good {s : List UInt8} {ng : Bool} (hn : pNg s = ng) (hg : oGood s) {wh pt pw : List UInt8} (h1 : pWh s = wh) (h2 : oPt s = pt) (h3 : pwX s = pw) : SpA s (txt false false false 0 0 false ng false wh pt pw) (-1) := ⟨by rw [hn, h1, h2, ← h3]; unfold pwY; rw [hg.1]; rfl, fun _ => rfl, fun a => absurd hg a⟩
theorem pwY_no {s : List UInt8} (h : oOk s = false) : pwY s = [] := by unfold pwY; rw [h]; rfl
theorem pwY_yes {s : List UInt8} (h : oOk s = true) : pwY s = pwX s := by unfold pwY; rw [h]; rfl
theorem none_all {s : List UInt8} (h : pWh s = []) : oPt s = [] ∧ pwY s = [] := by
  have hd : pDot s = false := by unfold pDot; rw [h]; rfl
  refine ⟨by unfold oPt pPt; rw [hd]; rfl, pwY_no ?_⟩
  unfold oOk pOk
  rw [h]
  rfl
theorem point_all {s : List UInt8} (hd : pDot s = true) (h : oPt s = []) : pwY s = [] := by
  apply pwY_no
  unfold oOk pOk
  have : pPt s.length s = [] := h
  rw [hd, this]
  simp
theorem Bk.two (w : World) (A : Array Value) (o : Obj) : Bk ((w.alloc (.cells A 43)).alloc o) w.heap.size A := ((Keep.refl _).alloc o).at (heap_alloc_new w _)
theorem keep_two (w : World) (o o' : Obj) : Keep w ((w.alloc o).alloc o') := ((Keep.refl w).alloc o).alloc o'
theorem tk_at {s : List UInt8} {ts : List UInt8} {m : Nat} (hm : m < s.length) : tk s ts m = decide (s.getD m 0 ∈ ts) := by
  unfold tk
  simp [hm]
theorem tk_end {s : List UInt8} {ts : List UInt8} {m : Nat} (hm : ¬ m < s.length) : tk s ts m = false := by
  unfold tk
  apply decide_eq_false
  rintro ⟨a, -⟩
  exact hm a
theorem eqb {b : UInt8} {n : Nat} (hn : n < 256) : ((b.toNat : Int) == (n : Int)) = decide (b = UInt8.ofNat n) := by
  by_cases q : b = UInt8.ofNat n
  · rw [q, decide_eq_true rfl]
    have : (UInt8.ofNat n).toNat = n := by simp [UInt8.toNat_ofNat']; omega
    rw [this]
    simp
  · rw [decide_eq_false q]
    apply neI
    intro h
    apply q
    apply UInt8.toNat_inj.1
    have : (UInt8.ofNat n).toNat = n := by simp [UInt8.toNat_ofNat']; omega
    rw [this]
    omega
end Go.Proofs.YtgciimjcdhallaaDoor

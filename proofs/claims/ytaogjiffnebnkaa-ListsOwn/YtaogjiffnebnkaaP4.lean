import Derived.Test.YtaogjiffnebnkaaProg
import Derived.Deep.RegionLaw
import Derived.Shelf.Abstract
import Derived.OwnWalkIn
import Derived.TacticsInMore
import Derived.LoopNIn
import Derived.LoopIn
import Derived.Sort.LoopGhostIn
import Derived.RangeFuncBox
import Derived.RangeFuncLeaves
import Derived.RangeFuncCalls
import Derived.RangeFuncRecord
import Derived.Below
import Derived.WalkKit
import Derived.WalkSpells
import Derived.WalkLawsBesides
import Derived.Deep.Draws
import Derived.Deep.QuietTactic
import Derived.BigQuiet
import Derived.Laws.Externs
import Derived.Laws.CopyOwn
import Derived.BigRegion
set_option linter.unusedVariables false
set_option linter.unusedSimpArgs false
namespace Go.Proofs.Ytaogjiffnebnkaa
open Go.RowKit Go.Shelf
/-- What a list of nodes is to a reader of its shape: which are inner, and the two below each. -/
structure Sh where
  K : Nat → Bool
  A : Nat → Nat
  B : Nat → Nat
/-- An equation laid aside. -/
def Hid (p : Prop) : Prop := p
theorem Hid.out {p : Prop} (h : Hid p) : p := h
theorem ret_bool {a b : Bool} (h : a = b) : Ending.returned (.bool a) = .returned (.bool b) := by rw [h]
/-- Nothing that was there has turned. -/
def Keep (w w' : World) : Prop := Below w.heap.size w w'
theorem Keep.refl (w : World) : Keep w w := Below.refl _ _
theorem Keep.trans {a b c : World} (h : Keep a b) (k : Keep b c) : Keep a c := Below.trans h (Below.mono k h.size)
theorem Keep.drew {a b : World} (h : Keep a b) : Keep a b.drew := Below.drew h
theorem Keep.alloc {a b : World} (h : Keep a b) (o : Obj) : Keep a (b.alloc o) := Below.alloc h h.size o
theorem Keep.setCell {a b : World} (h : Keep a b) {p : Addr} (hp : a.heap.size ≤ p.block) (u : Value) : Keep a (b.setCell p u) := Below.setCell h hp u
theorem Keep.cell {a b : World} (h : Keep a b) {p : Addr} {v : Value} (hc : a.cell? p = some v) : b.cell? p = some v :=
  (Below.cell h (World.block_lt_of_cell? a p hc)).trans hc
theorem Keep.le {a b : World} (h : Keep a b) : a.heap.size ≤ b.heap.size := h.size
/-- A node. -/
structure Nd where
  kd : Nat
  vl : Int
  ft : Int
  th : Nat
  cs : List Int
  ms : Nat
  lf : Int
  rt : Int
/-- Its numbers fit. -/
structure Nd.Fit (n : Nd) : Prop where
  kd : n.kd < 256
  vl : -9223372036854775808 ≤ n.vl ∧ n.vl ≤ 9223372036854775807
  ft : -9223372036854775808 ≤ n.ft ∧ n.ft ≤ 9223372036854775807
  th : n.th < 18446744073709551616
  cs : ∀ x ∈ n.cs, -9223372036854775808 ≤ x ∧ x ≤ 9223372036854775807
  ms : n.ms < 256
  lf : -9223372036854775808 ≤ n.lf ∧ n.lf ≤ 9223372036854775807
  rt : -9223372036854775808 ≤ n.rt ∧ n.rt ≤ 9223372036854775807
/-- Whole numbers that can be read. -/
def RdI (w : World) (a : Option Addr) (l : List Int) : Prop :=
  ∀ j, j < l.length → ∃ b o, a = some ⟨b, o, none⟩ ∧ w.cell? ⟨b, o + j, none⟩ = some (.int .i64 (l.getD j 0))
theorem RdI.keep {w w' : World} {a : Option Addr} {l : List Int} (h : RdI w a l) (k : Keep w w') : RdI w' a l := by
  intro j hj
  obtain ⟨b, o, e, hc⟩ := h j hj
  exact ⟨b, o, e, k.cell hc⟩
theorem RdI.nil (w : World) (a : Option Addr) : RdI w a [] := by intro j hj; simp at hj
/-- A node in memory. -/
structure NdAt (w : World) (b o : Nat) (n : Nd) (ca : Option Addr) (cap : Nat) : Prop where
  c0 : w.cell? ⟨b, o, none⟩ = some (.int .u8 n.kd)
  c1 : w.cell? ⟨b, o + 1, none⟩ = some (.int .i64 n.vl)
  c2 : w.cell? ⟨b, o + 2, none⟩ = some (.int .i64 n.ft)
  c3 : w.cell? ⟨b, o + 3, none⟩ = some (.float .f64 n.th)
  c4 : w.cell? ⟨b, o + 4, none⟩ = some (.slice ca n.cs.length cap)
  c5 : w.cell? ⟨b, o + 5, none⟩ = some (.int .u8 n.ms)
  c6 : w.cell? ⟨b, o + 6, none⟩ = some (.int .i64 n.lf)
  c7 : w.cell? ⟨b, o + 7, none⟩ = some (.int .i64 n.rt)
  rd : RdI w ca n.cs
  cp : n.cs.length ≤ cap
  sz : n.cs.length ≤ 17592186044416
  ok : n.Fit
theorem NdAt.keep {w w' : World} {b o : Nat} {n : Nd} {ca : Option Addr} {cap : Nat} (h : NdAt w b o n ca cap) (k : Keep w w') : NdAt w' b o n ca cap :=
  ⟨k.cell h.c0, k.cell h.c1, k.cell h.c2, k.cell h.c3, k.cell h.c4, k.cell h.c5, k.cell h.c6, k.cell h.c7, h.rd.keep k, h.cp, h.sz, h.ok⟩
def nd0 : Nd := ⟨0, 0, 0, 0, [], 0, 0, 0⟩
/-- Nodes that can be read. -/
def RdN (w : World) (a : Option Addr) (L : List Nd) : Prop :=
  ∀ j, j < L.length → ∃ b o ca cap, a = some ⟨b, o, none⟩ ∧ NdAt w b (o + j * 8) (L.getD j nd0) ca cap
theorem RdN.keep {w w' : World} {a : Option Addr} {L : List Nd} (h : RdN w a L) (k : Keep w w') : RdN w' a L := by
  intro j hj
  obtain ⟨b, o, ca, cap, e, hc⟩ := h j hj
  exact ⟨b, o, ca, cap, e, hc.keep k⟩
theorem f64bits (x : Nat) (w : World) : (callFunc 24 #[.float .f64 x]).run Try.prog w = .ok (.value (.int .u64 (x : Nat))) w := by
  rw [run_callFunc_extern Try.func24 (by kernel_rfl) (by kernel_rfl) (by kernel_rfl) (e := Extern.MathFloatBits.float64bits) (by kernel_rfl)]
  rfl
/-- No number: as the language compares. -/
def nanB (x : Nat) : Bool := !(FloatKind.f64.format.order x x == some .eq)
theorem IsNaN_any (x : Nat) (w : World) :
    Calls Try.prog 39 #[.float .f64 x] w fun e w' => e = .returned (.bool (nanB x)) ∧ w' = w := by
  go_enter Try.func39, Try.ntmps39
  go_wp2
  go_ret
  exact ⟨ret_bool rfl, rfl⟩
/-- What an iterator with memory of its own does: it turns its own blocks and lays new ones. -/
structure Stp (T : Nat → Prop) (A B : World) : Prop where
  os : B.os = A.os
  tape : B.tape = A.tape
  output : B.output = A.output
  size : A.heap.size ≤ B.heap.size
  block : ∀ g, g < A.heap.size → ¬ T g → B.heap[g]? = A.heap[g]?
/-- What a round leaves as it is: what lies below, and the iterator's blocks. -/
structure Kpt (n0 : Nat) (T : Nat → Prop) (A B : World) : Prop where
  os : B.os = A.os
  tape : B.tape = A.tape
  output : B.output = A.output
  size : A.heap.size ≤ B.heap.size
  block : ∀ g, g < A.heap.size → (g < n0 ∨ T g) → B.heap[g]? = A.heap[g]?
theorem Kpt.trans {n0 : Nat} {T : Nat → Prop} {A B C : World} (h : Kpt n0 T A B) (k : Kpt n0 T B C) : Kpt n0 T A C :=
  ⟨k.os.trans h.os, k.tape.trans h.tape, k.output.trans h.output, Nat.le_trans h.size k.size, fun g hg ht => (k.block g (Nat.lt_of_lt_of_le hg h.size) ht).trans (h.block g hg ht)⟩
theorem Kpt.put {n0 : Nat} {T : Nat → Prop} (A : World) (r : Nat) (o : Obj) (hr : n0 ≤ r) (ht : ¬ T r) : Kpt n0 T A (A.putObj r o) :=
  ⟨rfl, rfl, rfl, by simp, fun g _ hg => World.putObj_heap_other (fun e => by subst e; rcases hg with h | h; omega; exact ht h)⟩
/-- Naturals as cells. -/
def UI (l : List Nat) : List Value := l.map (fun x => Value.int .i64 (x : Nat))
theorem UI_get (l : List Nat) (j : Nat) (h : j < l.length) : (UI l)[j]? = some (.int .i64 (l.getD j 0 : Nat)) := by simp [UI, List.getD, h]
/-- Truths as cells. -/
def UB (l : List Bool) : List Value := l.map (fun x => Value.bool x)
theorem UB_get (l : List Bool) (j : Nat) (h : j < l.length) : (UB l)[j]? = some (.bool (l.getD j false)) := by simp [UB, List.getD, h]
def RowB (w : World) (g : Nat) (l : List Bool) : Prop := w.heap[g]? = some (.cells (UB l).toArray 4 (0, 0))
theorem RowB.cell {w : World} {g : Nat} {l : List Bool} (h : RowB w g l) (j : Nat) (hj : j < l.length) : w.cell? ⟨g, j, none⟩ = some (.bool (l.getD j false)) := by
  rw [cell_of_row w g j _ 4 (0, 0) h]; simpa using UB_get l j hj
theorem RowB.set {w : World} {g : Nat} {l : List Bool} (h : RowB w g l) (j : Nat) (x : Bool) : RowB (w.setCell ⟨g, j, none⟩ (.bool x)) g (l.set j x) := by
  have := heap_setCell_same w g j _ 4 (.bool x) h
  unfold RowB
  rw [this]
  simp [UB, List.map_set]
theorem i3 : (Try.prog.info? 3).map (fun i => (i.zero, i.size, i.bytes)) = some (some (.int .i64 0), 1, 8) := by kernel_rfl
/-- A list of naturals with memory of its own. -/
def OwnI (w : World) (v : Value) (l : List Nat) : Prop := w.ownsRow 0 3 1 v l.length (UI l)
theorem OwnI.same {w w' : World} {v : Value} {l : List Nat} (h : OwnI w v l) (k : ∀ b, v.ownBlock = some b → w'.heap[b]? = w.heap[b]?) : OwnI w' v l := by
  refine ⟨h.1, ?_⟩
  rcases h.2 with h2 | ⟨g, cap, cur, hv, hg, hh, r⟩
  · exact .inl h2
  · exact .inr ⟨g, cap, cur, hv, hg, by rw [k g (by rw [hv]; rfl)]; exact hh, r⟩
theorem OwnI.block {w : World} {v : Value} {l : List Nat} (h : OwnI w v l) {b : Nat} (hb : v.ownBlock = some b) : ∃ cur, w.heap[b]? = some (.cells cur 3 (0, 0)) := by
  rcases h.2 with ⟨h1, _⟩ | ⟨g, cap, cur, hv, hg, hh, r⟩
  · rw [h1] at hb; cases hb
  · rw [hv] at hb
    have hb : some g = some b := hb
    simp only [Option.some.injEq] at hb
    subst hb
    exact ⟨cur, hh⟩
theorem OwnI.nil (w : World) : OwnI w (.slice none 0 0) [] := ⟨rfl, .inl ⟨rfl, rfl⟩⟩
theorem OwnI.cells {w : World} {v : Value} {l : List Nat} (h : OwnI w v l) (h0 : 0 < l.length) : ∃ g cap, v = .slice (some ⟨g, 0, none⟩) l.length cap ∧ l.length ≤ cap ∧ g < w.heap.size ∧ ∀ j, j < l.length → w.cell? ⟨g, j, none⟩ = some (.int .i64 (l.getD j 0 : Nat)) := by
  rcases h.2 with ⟨h1, h2⟩ | ⟨g, cap, cur, hv, hg, hh, h1, h2, h3, h4⟩
  · omega
  · refine ⟨g, cap, hv, h1, (Array.getElem?_eq_some_iff.1 hh).1, ?_⟩
    intro j hj
    rw [cell_of_row w g j cur 3 (0, 0) hh, ← UI_get l j hj, ← h4]
    simp [hj]
theorem OwnI.shape {w : World} {v : Value} {l : List Nat} (h : OwnI w v l) : ∃ a c, v = .slice a l.length c ∧ l.length ≤ c := by
  rcases h.2 with ⟨h1, h2⟩ | ⟨g, cap, cur, hv, hg, hh, h1, h2, h3, h4⟩
  · exact ⟨none, 0, by rw [h1, h2], by omega⟩
  · exact ⟨_, cap, hv, h1⟩
/-- The shape of nodes. -/
def shp (L : List Nd) : Sh := ⟨fun i => decide ((L.getD i nd0).kd = 2 ∨ (L.getD i nd0).kd = 3), fun i => (L.getD i nd0).lf.toNat, fun i => (L.getD i nd0).rt.toNat⟩
/-- Kinds and children can be read, from blocks below n0. -/
def RdB (n0 : Nat) (w : World) (a : Option Addr) (L : List Nd) : Prop :=
  ∀ j, j < L.length → ∃ b o, a = some ⟨b, o, none⟩ ∧ b < n0 ∧ w.cell? ⟨b, o + j * 8, none⟩ = some (.int .u8 ((L.getD j nd0).kd : Nat)) ∧ w.cell? ⟨b, o + j * 8 + 6, none⟩ = some (.int .i64 (L.getD j nd0).lf) ∧ w.cell? ⟨b, o + j * 8 + 7, none⟩ = some (.int .i64 (L.getD j nd0).rt)
theorem RdB.same {n0 : Nat} {w w' : World} {a : Option Addr} {L : List Nd} (h : RdB n0 w a L) (k : ∀ g, g < n0 → w'.heap[g]? = w.heap[g]?) : RdB n0 w' a L := by
  intro j hj
  obtain ⟨b, o, e, hb, c0, c1, c2⟩ := h j hj
  have hk := k b hb
  exact ⟨b, o, e, hb, by rw [World.cell?_of_block (a := ⟨b, o + j * 8, none⟩) hk]; exact c0, by rw [World.cell?_of_block (a := ⟨b, o + j * 8 + 6, none⟩) hk]; exact c1, by rw [World.cell?_of_block (a := ⟨b, o + j * 8 + 7, none⟩) hk]; exact c2⟩
theorem Stp.alloc (T : Nat → Prop) (A : World) (o : Obj) : Stp T A (A.alloc o) :=
  have h := (Below.refl A.heap.size A).alloc (Nat.le_refl _) o
  ⟨h.os, h.tape, h.output, h.size, fun g hg _ => h.block g hg⟩
theorem Stp.set {T : Nat → Prop} {A : World} {g j : Nat} (v : Value) (h : T g) : Stp T A (A.setCell ⟨g, j, none⟩ v) :=
  ⟨rfl, rfl, rfl, by simp, fun k _ hk => Below.heap_setCell _ _ _ _ (fun e => hk (by simp at e; subst e; exact h))⟩
theorem Stp.grown {T : Nat → Prop} {A B : World} {row : Option Nat} (h : A.grownBy B row) (hr : ∀ b, row = some b → T b) : Stp T A B :=
  ⟨h.os, h.tape, h.output, h.size, fun g hg ht => h.block g hg (fun e => ht (hr g e.symm))⟩
def RowI (w : World) (g : Nat) (l : List Nat) : Prop := w.heap[g]? = some (.cells (UI l).toArray 3 (0, 0))
theorem RowI.cell {w : World} {g : Nat} {l : List Nat} (h : RowI w g l) (j : Nat) (hj : j < l.length) : w.cell? ⟨g, j, none⟩ = some (.int .i64 (l.getD j 0 : Nat)) := by
  rw [cell_of_row w g j _ 3 (0, 0) h]; simpa using UI_get l j hj
theorem RowI.set {w : World} {g : Nat} {l : List Nat} (h : RowI w g l) (j : Nat) (x : Nat) : RowI (w.setCell ⟨g, j, none⟩ (.int .i64 (x : Nat))) g (l.set j x) := by
  have := heap_setCell_same w g j _ 3 (.int .i64 (x : Nat)) h
  unfold RowI
  rw [this]
  simp [UI, List.map_set]
theorem neq_set (W : World) (g j : Nat) (v : Value) : ∀ k, k ≠ g → (W.setCell ⟨g, j, none⟩ v).heap[k]? = W.heap[k]? := fun k hk => Below.heap_setCell _ _ _ _ (by simpa using hk)
/-- A list that is gathered in a box while an iterator runs. -/
structure Col (Bl Bs : Nat) (w3 : World) (l : List Nat) (T : Nat → Prop) (W : World) : Prop where
  box : ∃ v, W.heap[Bl]? = some (.cells #[v] 55 (0, 0)) ∧ OwnI W v l ∧ ∀ b, v.ownBlock = some b → ¬ T b ∧ Bs + 3 ≤ b
  tb : ∀ g, T g → Bs ≤ g ∧ g < W.heap.size
  be : Below Bl w3 W
  sz : Bs + 1 ≤ W.heap.size
theorem Col.put {Bl Bs : Nat} {w3 : World} {l : List Nat} {T : Nat → Prop} {A : World} {r : Nat} {o' : Obj} (hB : Bl < Bs) (h : Col Bl Bs w3 l T A) (h1 : Bs + 1 ≤ r) (h2 : r < Bs + 3) : Col Bl Bs w3 l T (A.putObj r o') := by
  obtain ⟨⟨v, q1, q2, q3⟩, q4, q5, q6⟩ := h
  have kp : ∀ g, g ≠ r → (A.putObj r o').heap[g]? = A.heap[g]? := fun g hg => World.putObj_heap_other hg
  refine ⟨⟨v, ?_, ?_, q3⟩, by simpa using q4, ?_, by simpa using q6⟩
  · rw [kp _ (by omega)]; exact q1
  · exact q2.same (fun b hb => kp b (by have := (q3 b hb).2; omega))
  · exact ⟨q5.os, q5.tape, q5.output, by simpa using q5.size, fun g hg => (kp g (by omega)).trans (q5.block g hg)⟩
/-- One step of the program's Depth. -/
def dstep (t : Sh) (X : List Nat × Nat) (i : Nat) : List Nat × Nat :=
  (if t.K i = true then (X.1.set (t.A i) (X.1.getD i 0 + 1)).set (t.B i) (X.1.getD i 0 + 1) else X.1, max X.2 (X.1.getD i 0))
def dfold (t : Sh) (n : Nat) (p : List Nat) : List Nat × Nat := p.foldl (dstep t) (List.replicate n 0, 0)
/-- Numbers that can be read, by their bits. -/
def RdF (w : World) (a : Option Addr) (l : List Nat) : Prop :=
  ∀ j, j < l.length → ∃ b o, a = some ⟨b, o, none⟩ ∧ w.cell? ⟨b, o + j, none⟩ = some (.float .f64 (l.getD j 0))
theorem RdF.keep {w w' : World} {a : Option Addr} {l : List Nat} (h : RdF w a l) (k : Keep w w') : RdF w' a l := by
  intro j hj
  obtain ⟨b, o, e, hc⟩ := h j hj
  exact ⟨b, o, e, k.cell hc⟩
/-- A list that is gathered in a box while an iterator runs. -/
structure ColR (Bl Bs R : Nat) (w3 : World) (l : List Nat) (T : Nat → Prop) (W : World) : Prop where
  box : ∃ v, W.heap[Bl]? = some (.cells #[v] 55 (0, 0)) ∧ OwnI W v l ∧ ∀ b, v.ownBlock = some b → ¬ T b ∧ R + 2 ≤ b
  tb : ∀ g, T g → Bs ≤ g ∧ g < W.heap.size
  be : Below Bl w3 W
  sz : R ≤ W.heap.size
theorem ColR.put {Bl Bs R : Nat} {w3 : World} {l : List Nat} {T : Nat → Prop} {A : World} {r : Nat} {o' : Obj} (hB : Bl < Bs) (hBR : Bs ≤ R) (h : ColR Bl Bs R w3 l T A) (h1 : R ≤ r) (h2 : r < R + 2) : ColR Bl Bs R w3 l T (A.putObj r o') := by
  obtain ⟨⟨v, q1, q2, q3⟩, q4, q5, q6⟩ := h
  have kp : ∀ g, g ≠ r → (A.putObj r o').heap[g]? = A.heap[g]? := fun g hg => World.putObj_heap_other hg
  refine ⟨⟨v, ?_, ?_, q3⟩, by simpa using q4, ?_, by simpa using q6⟩
  · rw [kp _ (by omega)]; exact q1
  · exact q2.same (fun b hb => kp b (by have := (q3 b hb).2; omega))
  · exact ⟨q5.os, q5.tape, q5.output, by simpa using q5.size, fun g hg => (kp g (by omega)).trans (q5.block g hg)⟩
theorem run_store_float {P : Program} {w : World} {a : Addr} {m : Mode} (k : FloatKind) (x : Nat) : (store a (.float k x) m).run P w = stored P w a (.float k x) m := run_store P w a _ m rfl
/-- What Depth holds between two rounds. -/
structure DepI (L : List Nd) (A : Nat) (w3 : World) (pre : List Nat) (T : Nat → Prop) (W : World) : Prop where
  row : RowI W A (dfold (shp L) L.length pre).1
  bx : W.heap[A + 1]? = some (.cells #[.slice (some ⟨A, 0, none⟩) L.length L.length] 55 (0, 0))
  gr : W.heap[A + 1 + 1]? = some (.cells #[.int .i64 ((dfold (shp L) L.length pre).2 : Nat)] 3 (0, 0))
  tb : ∀ g, T g → A + 3 ≤ g
  be : Below A w3 W
  sz : A + 4 ≤ W.heap.size
theorem DepI.put {L : List Nd} {A : Nat} {w3 : World} {pre : List Nat} {T : Nat → Prop} {W : World} {r : Nat} {o' : Obj} (h : DepI L A w3 pre T W) (h1 : A + 4 ≤ r) : DepI L A w3 pre T (W.putObj r o') := by
  obtain ⟨q1, q2, q3, q4, q5, q6⟩ := h
  have kp : ∀ g, g < A + 3 → (W.putObj r o').heap[g]? = W.heap[g]? := fun g hg => World.putObj_heap_other (by omega)
  refine ⟨by unfold RowI; rw [kp _ (by omega)]; exact q1, by rw [kp _ (by omega)]; exact q2, by rw [kp _ (by omega)]; exact q3, q4, ?_, by simpa using q6⟩
  exact ⟨q5.os, q5.tape, q5.output, by simpa using q5.size, fun g hg => (kp g (by omega)).trans (q5.block g hg)⟩
/-- Three boxes that an iterator lets alone. -/
structure Box3 (A : Nat) (w : World) (o1 o2 o3 : Obj) (T : Nat → Prop) (W : World) : Prop where
  b1 : W.heap[A]? = some o1
  b2 : W.heap[A + 1]? = some o2
  b3 : W.heap[A + 1 + 1]? = some o3
  tb : ∀ g, T g → A + 3 ≤ g
  be : Below A w W
  sz : A + 4 ≤ W.heap.size
theorem Box3.put {A : Nat} {w : World} {o1 o2 o3 : Obj} {T : Nat → Prop} {W : World} {r : Nat} {o' : Obj} (h : Box3 A w o1 o2 o3 T W) (h1 : A + 4 ≤ r) : Box3 A w o1 o2 o3 T (W.putObj r o') := by
  obtain ⟨q1, q2, q3, q4, q5, q6⟩ := h
  have kp : ∀ g, g < A + 3 → (W.putObj r o').heap[g]? = W.heap[g]? := fun g hg => World.putObj_heap_other (by omega)
  refine ⟨by rw [kp _ (by omega)]; exact q1, by rw [kp _ (by omega)]; exact q2, by rw [kp _ (by omega)]; exact q3, q4, ?_, by simpa using q6⟩
  exact ⟨q5.os, q5.tape, q5.output, by simpa using q5.size, fun g hg => (kp g (by omega)).trans (q5.block g hg)⟩
/-- Two boxes that an iterator lets alone. -/
structure Box2 (A : Nat) (w : World) (o1 : Obj) (T : Nat → Prop) (W : World) : Prop where
  b1 : W.heap[A]? = some o1
  tb : ∀ g, T g → A + 1 ≤ g
  be : Below A w W
  sz : A + 3 ≤ W.heap.size
theorem Box2.put {A : Nat} {w : World} {o1 : Obj} {T : Nat → Prop} {W : World} {r : Nat} {o' : Obj} (h : Box2 A w o1 T W) (h1 : A + 3 ≤ r) : Box2 A w o1 T (W.putObj r o') := by
  obtain ⟨q1, q4, q5, q6⟩ := h
  have kp : ∀ g, g < A + 1 → (W.putObj r o').heap[g]? = W.heap[g]? := fun g hg => World.putObj_heap_other (by omega)
  refine ⟨by rw [kp _ (by omega)]; exact q1, q4, ?_, by simpa using q6⟩
  exact ⟨q5.os, q5.tape, q5.output, by simpa using q5.size, fun g hg => (kp g (by omega)).trans (q5.block g hg)⟩
/-- Whole numbers as cells. -/
def UZ (l : List Int) : List Value := l.map (fun x => Value.int .i64 x)
theorem UZ_length (l : List Int) : (UZ l).length = l.length := by simp [UZ]
theorem UZ_get (l : List Int) (j : Nat) (h : j < l.length) : (UZ l)[j]? = some (.int .i64 (l.getD j 0)) := by simp [UZ, List.getD, h]
theorem UZ_one (l : List Int) : ∀ u ∈ UZ l, u.oneCell' = true := by intro u hu; obtain ⟨_, _, rfl⟩ := List.mem_map.1 hu; rfl
/-- A list of whole numbers with memory of its own. -/
def OwnZ (E B : Nat) (w : World) (v : Value) (l : List Int) : Prop := w.ownsRow B E 1 v l.length (UZ l)
theorem OwnZ.same {E B : Nat} {w w' : World} {v : Value} {l : List Int} (h : OwnZ E B w v l) (k : ∀ b, v.ownBlock = some b → w'.heap[b]? = w.heap[b]?) : OwnZ E B w' v l := by
  refine ⟨h.1, ?_⟩
  rcases h.2 with h2 | ⟨g, cap, cur, hv, hg, hh, r⟩
  · exact .inl h2
  · exact .inr ⟨g, cap, cur, hv, hg, by rw [k g (by rw [hv]; rfl)]; exact hh, r⟩
theorem OwnZ.block {E B : Nat} {w : World} {v : Value} {l : List Int} (h : OwnZ E B w v l) {b : Nat} (hb : v.ownBlock = some b) : B ≤ b ∧ ∃ cur, w.heap[b]? = some (.cells cur E (0, 0)) := by
  rcases h.2 with ⟨h1, _⟩ | ⟨g, cap, cur, hv, hg, hh, r⟩
  · rw [h1] at hb; cases hb
  · rw [hv] at hb
    have hb : some g = some b := hb
    simp only [Option.some.injEq] at hb
    subst hb
    exact ⟨hg, cur, hh⟩
theorem OwnZ.keep {E B : Nat} {w w' : World} {v : Value} {l : List Int} (h : OwnZ E B w v l) (k : Keep w w') : OwnZ E B w' v l :=
  h.same (fun b hb => by obtain ⟨_, cur, hh⟩ := h.block hb; exact k.block b (Array.getElem?_eq_some_iff.1 hh).1)
theorem OwnZ.mono {E B B' : Nat} {w : World} {v : Value} {l : List Int} (h : OwnZ E B w v l) (hB : B' ≤ B) : OwnZ E B' w v l := by
  refine ⟨h.1, ?_⟩
  rcases h.2 with h2 | ⟨g, cap, cur, hv, hg, r⟩
  · exact .inl h2
  · exact .inr ⟨g, cap, cur, hv, by omega, r⟩
theorem OwnZ.nil (E B : Nat) (w : World) : OwnZ E B w (.slice none 0 0) [] := ⟨rfl, .inl ⟨rfl, rfl⟩⟩
theorem OwnZ.shape {E B : Nat} {w : World} {v : Value} {l : List Int} (h : OwnZ E B w v l) : ∃ a c, v = .slice a l.length c ∧ l.length ≤ c ∧ RdI w a l := by
  rcases h.2 with ⟨h1, h2⟩ | ⟨g, cap, cur, hv, hg, hh, h1, h2, h3, h4⟩
  · exact ⟨none, 0, by rw [h1, h2], by omega, fun j hj => by omega⟩
  · refine ⟨some ⟨g, 0, none⟩, cap, hv, h1, ?_⟩
    intro j hj
    refine ⟨g, 0, rfl, ?_⟩
    rw [Nat.zero_add, cell_of_row w g j cur E (0, 0) hh, ← UZ_get l j hj, ← h4]
    simp [hj]
/-- A cell written over. -/
theorem OwnZ.set {E B : Nat} {w : World} {g c : Nat} {l : List Int} (h : OwnZ E B w (.slice (some ⟨g, 0, none⟩) l.length c) l) (j : Nat) (hj : j < l.length) (x : Int) : OwnZ E B (w.setCell ⟨g, j, none⟩ (.int .i64 x)) (.slice (some ⟨g, 0, none⟩) l.length c) (l.set j x) ∧ w.frozen? ⟨g, j, none⟩ = false := by
  rcases h.2 with ⟨h1, h2⟩ | ⟨g', cap, cur, hv, hg, hh, h1, h2, h3, h4⟩
  · cases h1
  · simp only [Value.slice.injEq, Option.some.injEq, Addr.mk.injEq, and_true, true_and] at hv
    obtain ⟨rfl, rfl⟩ := hv
    refine ⟨⟨by simp [UZ], .inr ⟨g, c, cur.setIfInBounds j (.int .i64 x), by simp, hg, heap_setCell_same w g j cur E _ hh, by simpa using h1, h2, by simpa using h3, ?_⟩⟩, frozen_of_row w g j cur E hh⟩
    rw [Array.toList_setIfInBounds]
    simp only [List.length_set, Nat.mul_one] at h4 ⊢
    rw [List.take_set, h4]
    simp [UZ, List.map_set]
/-- append(nil, l...). -/
theorem wpList_copyN {w : World} {ops : Array Oper} {rest : List Oper} {o : Oper} {a : Act} {Q : Exit → Act → World → Prop} (hgd : o.guard = none) (s x : Operand)
    (ho : o.op = .call { callee := .builtin .append, args := #[s, x], argTypes := #[55, 55] }) (l : List Int) (ad : Addr) (c : Nat) (hs : a.eval s = .slice none 0 0)
    (hx : a.eval x = .slice (some ad) l.length c) (hr : RdI w (some ad) l) (hlen : l.length ≤ 17592186044416)
    (hK : ∀ v w1, OwnZ 3 w.heap.size w1 v l → Keep w w1 → wpList Try.prog ops Q rest (a.put o.dst v) w1) :
    wpList Try.prog ops Q (o :: rest) a w := by
  obtain ⟨i0, hi, hz0, hz1, hz2⟩ := info_parts i3
  refine wpList_append_own _ hgd s x 55 ho w.heap.size 3 i0 (.int .i64 0) 1 8 Try.underlying55 hi hz0 hz1 hz2 rfl (by decide) _ _ _ hs (OwnZ.nil 3 w.heap.size w) ad l.length c (UZ l) hx (by simp [UZ]) ?_ (UZ_one l) ?_ ?_ ?_ ?_
  · intro j u hj
    have hjl : j < l.length := by have := (List.getElem?_eq_some_iff.1 hj).1; simpa [UZ_length] using this
    rw [UZ_get l j hjl] at hj
    obtain ⟨b', o', e, hc⟩ := hr j hjl
    simp only [Option.some.injEq] at e
    subst e
    rw [Addr.add_lit, hc, hj]
  · simp only [maxLen, List.length_nil]; omega
  · simp only [List.length_nil]; omega
  · exact Nat.le_refl _
  · intro v' w1 h1 h2 _
    refine hK v' w1 ?_ ?_
    · unfold OwnZ; simpa [UZ] using h1
    · refine Below.grown (Keep.refl w) h2 (Nat.le_refl _) ?_
      intro k hk'
      cases hk'
/-- Trees that can be read. -/
def RdT (w : World) (a : Option Addr) (ts : List (Int × List Nd)) : Prop :=
  ∀ j, j < ts.length → ∃ b o na nc, a = some ⟨b, o, none⟩ ∧ w.cell? ⟨b, o + j * 2, none⟩ = some (.int .i64 (ts.getD j (0, [])).1) ∧ w.cell? ⟨b, o + j * 2 + 1, none⟩ = some (.slice na (ts.getD j (0, [])).2.length nc) ∧ RdN w na (ts.getD j (0, [])).2 ∧ (ts.getD j (0, [])).2.length ≤ nc ∧ (ts.getD j (0, [])).2.length ≤ 2199023255552 ∧ (-9223372036854775808 ≤ (ts.getD j (0, [])).1 ∧ (ts.getD j (0, [])).1 ≤ 9223372036854775807)
theorem RdT.keep {w w' : World} {a : Option Addr} {ts : List (Int × List Nd)} (h : RdT w a ts) (k : Keep w w') : RdT w' a ts := by
  intro j hj
  obtain ⟨b, o, na, nc, e, h1, h2, h3, h4⟩ := h j hj
  exact ⟨b, o, na, nc, e, k.cell h1, k.cell h2, h3.keep k, h4⟩
theorem int_ext {a b : List Int} (h1 : a.length = b.length) (h2 : ∀ j, j < a.length → a.getD j 0 = b.getD j 0) : a = b := by
  apply List.ext_getElem h1
  intro i h3 h4
  have := h2 i h3
  simpa [List.getD, h3, h4] using this
set_option maxRecDepth 100000 in
theorem rInts_any (a b : Option Addr) (ca cb : Nat) (la lb : List Int) (w : World) (hla : la.length ≤ 17592186044416) (ha : RdI w a la) (hb : RdI w b lb) :
    Calls Try.prog 40 #[.slice a la.length ca, .slice b lb.length cb] w fun e w' => e = .returned (.bool (decide (la = lb))) ∧ Keep w w' := by
  by_cases hl : la.length = lb.length
  · go_enter Try.func40, Try.ntmps40
    rw [← hl]
    replace hl : Hid _ := hl
    go_wp2_with fail
    go_loopw [13] (fun iv wr => ∃ k : Nat, k ≤ la.length ∧ iv = .int .i64 k ∧ Keep w wr ∧ Hid (∀ j, j < k → la.getD j 0 = lb.getD j 0)) (fun iv _ => la.length - (intOf iv).toNat)
    case atStart => exact ⟨0, by omega, rfl, Keep.refl w, by intro j hj; omega⟩
    case round =>
      obtain ⟨k, hk, rfl, kw, hinv⟩ := hrel
      by_cases hkl : k < la.length
      · have hkc : (k : Int) < (la.length : Int) := by omega
        have hkl2 : k < lb.length := by have := hl.out; omega
        obtain ⟨b1, o1, rfl, c1⟩ := (ha.keep kw) k hkl
        obtain ⟨b2, o2, rfl, c2⟩ := (hb.keep kw) k hkl2
        obtain ⟨x, hx⟩ : ∃ x, la.getD k 0 = x := ⟨_, rfl⟩
        obtain ⟨y, hy⟩ : ∃ y, lb.getD k 0 = y := ⟨_, rfl⟩
        rw [hx] at c1
        rw [hy] at c2
        have HX : Hid (la.getD k 0 = x ∧ lb.getD k 0 = y) := ⟨hx, hy⟩
        clear hx hy
        by_cases hxy : x = y
        · subst hxy
          have HN : Hid (∀ j, j < k + 1 → la.getD j 0 = lb.getD j 0) := by
            intro j hj
            by_cases e : j = k
            · subst e; rw [HX.out.1, HX.out.2]
            · exact hinv.out j (by omega)
          go_wp2_with fail
          go_region_with fail
          all_goals
            go_simp
            go_wp2_with fail
            go_roundw
            case rel => exact ⟨k + 1, by omega, by go_num, kw.drew, HN⟩
            case measure => simp [intOf]; omega
        · have hB : (x == y) = false := by simpa using hxy
          have hB2 : (x != y) = true := by simpa using hxy
          have HF : Hid (decide (la = lb) = false) := by
            show _ = _
            rw [decide_eq_false_iff_not]
            intro e
            have := HX.out
            rw [e] at this
            exact hxy (this.1.symm.trans this.2)
          clear hxy
          go_wp2_with fail
          go_region_with fail
          all_goals
            go_simp
            go_wp2_with fail
            go_ret
            exact ⟨ret_bool HF.out.symm, kw.drew⟩
      · have hkc : ¬ (k : Int) < (la.length : Int) := by omega
        have HT : Hid (decide (la = lb) = true) := decide_eq_true (int_ext hl.out (fun j hj => hinv.out j (by omega)))
        go_wp2_with fail
        go_ret
        exact ⟨ret_bool HT.out.symm, kw⟩
  · have hB : ((la.length : Int) == (lb.length : Int)) = false := by rw [beq_eq_false_iff_ne]; omega
    have hB2 : ((la.length : Int) != (lb.length : Int)) = true := by simp; omega
    have HF : Hid (decide (la = lb) = false) := by
      show _ = _
      rw [decide_eq_false_iff_not]
      intro e; rw [e] at hl; exact hl rfl
    go_enter Try.func40, Try.ntmps40
    go_wp2_with fail
    go_ret
    exact ⟨ret_bool HF.out.symm, Keep.refl _⟩
theorem boxes2n (w : World) (u v : Array Value) (t1 t2 : Nat) : ∃ w4, (w.alloc (Obj.cells u t1)).alloc (Obj.cells v t2) = w4 ∧ Keep w w4 ∧ w4.heap.size = w.heap.size + 2 ∧
    w4.heap[w.heap.size]? = some (Obj.cells u t1 (0, 0)) ∧ w4.heap[w.heap.size + 1]? = some (Obj.cells v t2 (0, 0)) := by
  refine ⟨_, rfl, ((Keep.refl w).alloc _).alloc _, by simp, ?_, ?_⟩
  · exact (Below.heap_alloc _ _ _ (by simp)).trans (heap_alloc_new w _)
  · have := heap_alloc_new (w.alloc (Obj.cells u t1)) (Obj.cells v t2)
    rw [World.size_alloc] at this
    exact this
/-- append(nil, l...), whether l is nil or not. -/
theorem wpList_copyAny {w : World} {ops : Array Oper} {rest : List Oper} {o : Oper} {a : Act} {Q : Exit → Act → World → Prop} (hgd : o.guard = none) (s x : Operand)
    (ho : o.op = .call { callee := .builtin .append, args := #[s, x], argTypes := #[55, 55] }) (l : List Int) (ad : Option Addr) (c : Nat) (hs : a.eval s = .slice none 0 0)
    (hx : a.eval x = .slice ad l.length c) (hr : RdI w ad l) (hlen : l.length ≤ 17592186044416)
    (hK : ∀ v w1, OwnZ 3 w.heap.size w1 v l → Keep w w1 → wpList Try.prog ops Q rest (a.put o.dst v) w1) :
    wpList Try.prog ops Q (o :: rest) a w := by
  rcases ad with _ | ad
  · obtain rfl : l = [] := by
      by_cases h : l = []
      · exact h
      · obtain ⟨b, o, e, -⟩ := hr 0 (List.length_pos_iff.2 h); cases e
    refine wpList_plain hgd fun K hK' => ?_
    have hrun : (Builtin.append_ #[55, 55] o.type #[.slice none 0 0, .slice none 0 c]).run Try.prog w = .ok (.slice none 0 0) w := by
      go_simp
    unfold Oper.wp
    simp [execOp, ho, resolve, invoke, builtin, hs, hx, hrun, Result.andThen]
    exact hK' _ _ (hK _ w (OwnZ.nil _ _ _) (Keep.refl w))
  · exact wpList_copyN hgd s x ho l ad c hs hx hr hlen hK
end Go.Proofs.Ytaogjiffnebnkaa
set_option linter.unusedVariables false
set_option linter.unusedSimpArgs false
namespace Go.Proofs.Ytaogjiffnebnkaa
open Go.RowKit Go.Shelf
/-- A cut. -/
structure Ct where
  th : Nat
  cs : List Int
  tr : Int
  fr : Int
  to : Int
def cd0 : Ct := ⟨0, [], 0, 0, 0⟩
def Ct.v (n : Ct) (ca : Option Addr) (cap : Nat) : Value := .agg #[.float .f64 n.th, .slice ca n.cs.length cap, .int .i64 n.tr, .int .i64 n.fr, .int .i64 n.to]
/-- A cut in memory. -/
structure CtAt (w : World) (b o : Nat) (n : Ct) (ca : Option Addr) (cap : Nat) : Prop where
  c0 : w.cell? ⟨b, o, none⟩ = some (.float .f64 n.th)
  c1 : w.cell? ⟨b, o + 1, none⟩ = some (.slice ca n.cs.length cap)
  c2 : w.cell? ⟨b, o + 2, none⟩ = some (.int .i64 n.tr)
  c3 : w.cell? ⟨b, o + 3, none⟩ = some (.int .i64 n.fr)
  c4 : w.cell? ⟨b, o + 4, none⟩ = some (.int .i64 n.to)
  rd : RdI w ca n.cs
  cp : n.cs.length ≤ cap
  sz : n.cs.length ≤ 17592186044416
theorem CtAt.keep {w w' : World} {b o : Nat} {n : Ct} {ca : Option Addr} {cap : Nat} (h : CtAt w b o n ca cap) (k : Keep w w') : CtAt w' b o n ca cap :=
  ⟨k.cell h.c0, k.cell h.c1, k.cell h.c2, k.cell h.c3, k.cell h.c4, h.rd.keep k, h.cp, h.sz⟩
/-- Cuts that can be read. -/
def RdC (w : World) (a : Option Addr) (L : List Ct) : Prop :=
  ∀ j, j < L.length → ∃ b o ca cap, a = some ⟨b, o, none⟩ ∧ CtAt w b (o + j * 5) (L.getD j cd0) ca cap
theorem RdC.keep {w w' : World} {a : Option Addr} {L : List Ct} (h : RdC w a L) (k : Keep w w') : RdC w' a L := by
  intro j hj
  obtain ⟨b, o, ca, cap, e, hc⟩ := h j hj
  exact ⟨b, o, ca, cap, e, hc.keep k⟩
/-- Nodes as cells. -/
def UC : List (Ct × Option Addr × Nat) → List Value
  | [] => []
  | r :: L => .float .f64 r.1.th :: .slice r.2.1 r.1.cs.length r.2.2 :: .int .i64 r.1.tr :: .int .i64 r.1.fr :: .int .i64 r.1.to :: UC L
theorem UC_append : ∀ L M, UC (L ++ M) = UC L ++ UC M
  | [], _ => rfl
  | r :: L, M => by simp [UC, UC_append L M]
theorem UC_length : ∀ L, (UC L).length = L.length * 5
  | [] => rfl
  | r :: L => by simp [UC, UC_length L]; omega
theorem UC_one : ∀ L, ∀ u ∈ UC L, u.oneCell' = true
  | [], u, h => by simp [UC] at h
  | r :: L, u, h => by
    simp only [UC, List.mem_cons] at h
    rcases h with rfl | rfl | rfl | rfl | rfl | h
    all_goals first | rfl | exact UC_one L u h
abbrev ct0 : Ct × Option Addr × Nat := (cd0, none, 0)
theorem UC_get : ∀ (K : List (Ct × Option Addr × Nat)) (j i : Nat), j < K.length → i < 5 → (UC K)[j * 5 + i]? = (UC [K.getD j ct0])[i]?
  | [], j, i, h, _ => by simp at h
  | r :: K, 0, i, _, hi => by
    simp only [Nat.zero_mul, Nat.zero_add, List.getD_cons_zero]
    match i, hi with
    | 0, _ => rfl
    | 1, _ => rfl
    | 2, _ => rfl
    | 3, _ => rfl
    | 4, _ => rfl
  | r :: K, j + 1, i, h, hi => by
    have := UC_get K j i (by simpa using h) hi
    rw [show (j + 1) * 5 + i = (j * 5 + i) + 1 + 1 + 1 + 1 + 1 by omega]
    simp only [UC, List.getElem?_cons_succ, List.getD_cons_succ]
    exact this
def OwnC (B : Nat) (w : World) (v : Value) (K : List (Ct × Option Addr × Nat)) : Prop := w.ownsRow B 57 5 v K.length (UC K)
theorem OwnC.nil (B : Nat) (w : World) : OwnC B w (.slice none 0 0) [] := ⟨rfl, .inl ⟨rfl, rfl⟩⟩
theorem OwnC.same {B : Nat} {w w' : World} {v : Value} {K : List (Ct × Option Addr × Nat)} (h : OwnC B w v K) (k : ∀ b, v.ownBlock = some b → w'.heap[b]? = w.heap[b]?) : OwnC B w' v K := by
  refine ⟨h.1, ?_⟩
  rcases h.2 with h2 | ⟨g, cap, cur, hv, hg, hh, r⟩
  · exact .inl h2
  · exact .inr ⟨g, cap, cur, hv, hg, by rw [k g (by rw [hv]; rfl)]; exact hh, r⟩
theorem OwnC.block {B : Nat} {w : World} {v : Value} {K : List (Ct × Option Addr × Nat)} (h : OwnC B w v K) {b : Nat} (hb : v.ownBlock = some b) : B ≤ b ∧ ∃ cur, w.heap[b]? = some (.cells cur 57 (0, 0)) := by
  rcases h.2 with ⟨h1, _⟩ | ⟨g, cap, cur, hv, hg, hh, r⟩
  · rw [h1] at hb; cases hb
  · rw [hv] at hb
    have hb : some g = some b := hb
    simp only [Option.some.injEq] at hb
    subst hb
    exact ⟨hg, cur, hh⟩
theorem OwnC.keep {B : Nat} {w w' : World} {v : Value} {K : List (Ct × Option Addr × Nat)} (h : OwnC B w v K) (k : Keep w w') : OwnC B w' v K :=
  h.same (fun b hb => by obtain ⟨_, cur, hh⟩ := h.block hb; exact k.block b (Array.getElem?_eq_some_iff.1 hh).1)
theorem OwnC.shape {B : Nat} {w : World} {v : Value} {K : List (Ct × Option Addr × Nat)} (h : OwnC B w v K) : ∃ a c, v = .slice a K.length c ∧ K.length ≤ c ∧ ∀ j, j < K.length → ∃ b, a = some ⟨b, 0, none⟩ ∧ ∀ i u, i < 5 → (UC [K.getD j ct0])[i]? = some u → w.cell? ⟨b, j * 5 + i, none⟩ = some u := by
  rcases h.2 with ⟨h1, h2⟩ | ⟨g, cap, cur, hv, hg, hh, h1, h2, h3, h4⟩
  · exact ⟨none, 0, by rw [h1, h2], by omega, fun j hj => by omega⟩
  · refine ⟨some ⟨g, 0, none⟩, cap, hv, h1, ?_⟩
    intro j hj
    refine ⟨g, rfl, ?_⟩
    intro i u hi hu
    have e1 : cur.toList[j * 5 + i]? = (UC K)[j * 5 + i]? := by rw [← h4, List.getElem?_take, if_pos (by omega)]
    rw [cell_of_row w g _ cur 57 (0, 0) hh, ← hu, ← UC_get K j i hj hi, ← e1]; simp
theorem i57 : (Try.prog.info? 57).map (fun i => (i.zero, i.size, i.bytes)) = some (some (.agg #[.float .f64 0, .slice none 0 0, .int .i64 0, .int .i64 0, .int .i64 0]), 5, 56) := by kernel_rfl
theorem appC_sep (B : Nat) (w : World) (ty : Nat) (v : Value) (l : List (Ct × Option Addr × Nat)) (y : Ct × Option Addr × Nat) (hown : OwnC B w v l) (hB : B ≤ w.heap.size) (ad : Addr) (c : Nat) (hnews : ∀ j u, (UC [y])[j]? = some u → w.cell? (ad.add j) = some u) (hlen : l.length + 1 ≤ 1099511627776) :
    ∃ v' w', (Builtin.append_ #[31, 31] ty #[v, .slice (some ad) 1 c]).run Try.prog w = .ok v' w' ∧ OwnC B w' v' (l ++ [y]) ∧ w.grownBy w' v.ownBlock ∧ (v'.ownBlock = v.ownBlock ∨ v'.ownBlock = some w.heap.size) := by
  obtain ⟨i0, hi, hz0, hz1, hz2⟩ := info_parts i57
  have h1 : ∀ u ∈ UC [y], u.oneCell' = true := UC_one _
  have hl : (UC [y]).length = 1 * 5 := by rw [UC_length]; rfl
  obtain ⟨v', w', hr, h2, h3, -⟩ := run_append_own (P := Try.prog) w B 31 ty 57 i0 _ 5 56 Try.underlying31 hi hz0 hz1 hz2 rfl (by decide) v _ _ hown ad 1 c (UC [y]) hl hnews h1 (by simp only [maxLen]; omega) (by omega) hB
  refine ⟨v', w', hr, ?_, h3, ?_⟩
  · unfold OwnC; rw [List.length_append, UC_append]; exact h2
  rcases hown.2 with ⟨rfl, hn⟩ | ⟨g, cap, cur, rfl, hbg, hg, hnc, hcm, hcs, htake⟩
  · have e := run_append_nil (P := Try.prog) w 31 ty 57 i0 _ Try.underlying31 hi hz0 ad 1 c (UC [y]) (by rw [hz1]; exact hl) hnews (by omega) (by omega) (by rw [hz2]; omega)
    rw [hr] at e
    simp only [Result.ok.injEq] at e
    rw [e.1]
    exact .inr rfl
  · by_cases hroom : l.length + 1 ≤ cap
    · have e := run_append_room (P := Try.prog) w 31 ty 57 i0 Try.underlying31 hi g l.length cap cur hg ad 1 c (UC [y]) (by rw [hz1]; exact hl) hnews h1 hroom (by rw [hz1, UC_length]; simp; omega)
      rw [hr] at e
      simp only [Result.ok.injEq] at e
      rw [e.1]
      exact .inl rfl
    · have holds : ∀ j u, (UC l)[j]? = some u → w.cell? ((⟨g, 0, none⟩ : Addr).add j) = some u := World.ownsRow.cells (v := .slice (some ⟨g, 0, none⟩) l.length cap) hown (g := g) rfl
      have e := run_append_grow (P := Try.prog) w 31 ty 57 i0 _ Try.underlying31 hi hz0 ⟨g, 0, none⟩ l.length cap (UC l) (by rw [hz1, UC_length]) holds ad 1 c (UC [y]) (by rw [hz1]; exact hl) hnews (by omega) (by omega) (growslice_fits (by omega) (by rw [hz2]; omega))
      rw [hr] at e
      simp only [Result.ok.injEq] at e
      rw [e.1]
      exact .inr rfl
/-- append(l, node). -/
theorem wpList_appC (B : Nat) (w : World) {ops : Array Oper} {rest : List Oper} {o : Oper} {a : Act} {Q : Exit → Act → World → Prop} (hgd : o.guard = none) (s x : Operand)
    (hop : o.op = .call { callee := .builtin .append, args := #[s, x], argTypes := #[31, 31] }) (l : List (Ct × Option Addr × Nat)) (y : Ct × Option Addr × Nat) (v : Value) (hs : a.eval s = v) (hown : OwnC B w v l) (hB : B ≤ w.heap.size) (ad : Addr) (c : Nat) (hx : a.eval x = .slice (some ad) 1 c)
    (hnews : ∀ j u, (UC [y])[j]? = some u → w.cell? (ad.add j) = some u) (hlen : l.length + 1 ≤ 1099511627776)
    (hK : ∀ v' w', OwnC B w' v' (l ++ [y]) → w.grownBy w' v.ownBlock → (v'.ownBlock = v.ownBlock ∨ v'.ownBlock = some w.heap.size) → wpList Try.prog ops Q rest (a.put o.dst v') w') :
    wpList Try.prog ops Q (o :: rest) a w := by
  refine wpList_plain hgd fun K hK' => ?_
  obtain ⟨v', w', hrun, r1, r2, r3⟩ := appC_sep B w o.type v l y hown hB ad c hnews hlen
  unfold Oper.wp
  simp [execOp, hop, resolve, invoke, builtin, hs, hx, hrun, Result.andThen]
  exact hK' _ _ (hK v' w' r1 r2 r3)
/-- append(l, whole numbers...), l of one's own and empty. -/
theorem wpList_copyE (B : Nat) {w : World} {ops : Array Oper} {rest : List Oper} {o : Oper} {a : Act} {Q : Exit → Act → World → Prop} (hgd : o.guard = none) (s x : Operand)
    (ho : o.op = .call { callee := .builtin .append, args := #[s, x], argTypes := #[55, 55] }) (g : Nat) (hown : OwnZ 3 B w (.slice (some ⟨g, 0, none⟩) 0 0) []) (hB : B ≤ w.heap.size) (l : List Int) (ad : Option Addr) (c : Nat) (hs : a.eval s = .slice (some ⟨g, 0, none⟩) 0 0)
    (hx : a.eval x = .slice ad l.length c) (hr : RdI w ad l) (hlen : l.length ≤ 17592186044416)
    (hK : ∀ v' w1, OwnZ 3 B w1 v' l → w.grownBy w1 (some g) → wpList Try.prog ops Q rest (a.put o.dst v') w1) :
    wpList Try.prog ops Q (o :: rest) a w := by
  obtain ⟨i0, hi, hz0, hz1, hz2⟩ := info_parts i3
  rcases ad with _ | ad
  · obtain rfl : l = [] := by
      by_cases h : l = []
      · exact h
      · obtain ⟨b, o, e, -⟩ := hr 0 (List.length_pos_iff.2 h); cases e
    refine wpList_plain hgd fun K hK' => ?_
    have hrun : (Builtin.append_ #[55, 55] o.type #[.slice (some ⟨g, 0, none⟩) 0 0, .slice none 0 c]).run Try.prog w = .ok (.slice (some ⟨g, 0, none⟩) 0 0) w := by
      go_simp
    unfold Oper.wp
    simp [execOp, ho, resolve, invoke, builtin, hs, hx, hrun, Result.andThen]
    exact hK' _ _ (hK _ w hown ⟨rfl, rfl, rfl, Nat.le_refl _, fun _ _ _ => rfl⟩)
  refine wpList_append_own _ hgd s x 55 ho B 3 i0 (.int .i64 0) 1 8 Try.underlying55 hi hz0 hz1 hz2 rfl (by decide) _ _ _ hs hown ad l.length c (UZ l) hx (by simp [UZ]) ?_ (UZ_one l) ?_ ?_ hB ?_
  · intro j u hj
    have hjl : j < l.length := by have := (List.getElem?_eq_some_iff.1 hj).1; simpa [UZ_length] using this
    rw [UZ_get l j hjl] at hj
    obtain ⟨b', o', e, hc⟩ := hr j hjl
    simp only [Option.some.injEq] at e
    subst e
    rw [Addr.add_lit, hc, hj]
  · simp only [maxLen, List.length_nil]; omega
  · simp only [List.length_nil]; omega
  · intro v' w1 h1 h2 _
    refine hK v' w1 ?_ h2
    unfold OwnZ; simpa [UZ] using h1
end Go.Proofs.Ytaogjiffnebnkaa
set_option linter.unusedVariables false
set_option linter.unusedSimpArgs false
namespace Go.Proofs.Ytaogjiffnebnkaa
open Go.RowKit Go.Shelf
attribute [local go_sem] run_store_float
/-- A list of cuts of one's own, in all its depth. -/
structure OC (L : List Ct) (w : World) (v : Value) (wr : World) (K : List (Ct × Option Addr × Nat)) : Prop where
  eq : K.map (fun r => r.1) = L
  own : OwnC w.heap.size wr v K
  cats : ∀ r ∈ K, OwnZ 3 w.heap.size wr (.slice r.2.1 r.1.cs.length r.2.2) r.1.cs ∧ r.1.cs.length ≤ 17592186044416
  kp : Keep w wr
theorem OC.nil (w : World) : OC [] w (.slice none 0 0) w [] := ⟨rfl, OwnC.nil _ _, by simp, Keep.refl w⟩
theorem OC.len {L : List Ct} {w : World} {v : Value} {wr : World} {K : List (Ct × Option Addr × Nat)} (h : OC L w v wr K) : K.length = L.length := by rw [← h.eq, List.length_map]
theorem OC.keep {L : List Ct} {w : World} {v : Value} {wr w' : World} {K : List (Ct × Option Addr × Nat)} (h : OC L w v wr K) (k : Keep wr w') : OC L w v w' K :=
  ⟨h.eq, h.own.keep k, fun r hr => ⟨(h.cats r hr).1.keep k, (h.cats r hr).2⟩, h.kp.trans k⟩
/-- Rows of cuts and rows of whole numbers lie in different blocks. -/
theorem own_ne {B B' : Nat} {w : World} {v u : Value} {K : List (Ct × Option Addr × Nat)} {l : List Int} (h : OwnC B w v K) (h' : OwnZ 3 B' w u l) {b : Nat} (hb : u.ownBlock = some b) : v.ownBlock ≠ some b := by
  intro e
  obtain ⟨-, c1, h1⟩ := h.block e
  obtain ⟨-, c2, h2⟩ := h'.block hb
  rw [h1] at h2
  simp at h2
theorem OC.step {L : List Ct} {w : World} {v : Value} {wr : World} {K : List (Ct × Option Addr × Nat)} (hI : OC L w v wr K) {N : Ct} {va : Option Addr} {cc : Nat} {W : World} (kW : Keep wr W) (hs : N.cs.length ≤ 17592186044416)
    (hO : OwnZ 3 w.heap.size W (.slice va N.cs.length cc) N.cs) {v' : Value} {w5 : World} (hO5 : OwnC w.heap.size w5 v' (K ++ [(N, va, cc)])) (g5 : W.grownBy w5 v.ownBlock) :
    OC (L ++ [N]) w v' w5 (K ++ [(N, va, cc)]) := by
  have hW := hI.keep kW
  have hsm : ∀ {u : Value} {l : List Int}, OwnZ 3 w.heap.size W u l → OwnZ 3 w.heap.size w5 u l := by
    intro u l hu
    refine hu.same (fun b hb => ?_)
    obtain ⟨-, cur, hc⟩ := hu.block hb
    exact g5.block b (Array.getElem?_eq_some_iff.1 hc).1 (fun e => own_ne hW.own hu hb e.symm)
  refine ⟨by rw [List.map_append, hI.eq]; rfl, hO5, ?_, Below.grown hW.kp g5 hW.kp.le (fun b hb => (hW.own.block hb).1)⟩
  intro r hr
  rcases List.mem_append.1 hr with hr | hr
  · exact ⟨hsm (hW.cats r hr).1, (hW.cats r hr).2⟩
  · obtain rfl := List.mem_singleton.1 hr
    exact ⟨hsm hO, hs⟩
theorem OC.rd {L : List Ct} {w : World} {v : Value} {wr : World} {K : List (Ct × Option Addr × Nat)} (h : OC L w v wr K) : ∃ a c, v = .slice a L.length c ∧ L.length ≤ c ∧ RdC wr a L := by
  obtain ⟨a, c, e, hc, hr⟩ := h.own.shape
  rw [h.len] at e hc
  refine ⟨a, c, e, hc, ?_⟩
  intro j hj
  have hj' : j < K.length := by rw [h.len]; exact hj
  obtain ⟨b, rfl, hu⟩ := hr j hj'
  have ej : L.getD j cd0 = (K.getD j ct0).1 := by
    rw [← h.eq]; simp [List.getD, hj']
  have hm : K.getD j ct0 ∈ K := by
    have : K.getD j ct0 = K[j] := by simp [List.getD, hj']
    rw [this]; exact List.getElem_mem _
  obtain ⟨h1, h2⟩ := h.cats _ hm
  rw [ej]
  generalize K.getD j ct0 = r at *
  obtain ⟨a', c', e', hc', hr'⟩ := h1.shape
  simp only [Value.slice.injEq] at e'
  obtain ⟨rfl, -, rfl⟩ := e'
  refine ⟨b, 0, r.2.1, r.2.2, rfl, ?_⟩
  rw [Nat.zero_add]
  exact ⟨hu 0 _ (by omega) rfl, hu 1 _ (by omega) rfl, hu 2 _ (by omega) rfl, hu 3 _ (by omega) rfl, hu 4 _ (by omega) rfl, hr', hc', h2⟩
/-- Five stores into a row of five. -/
theorem store5 (w : World) (g ty : Nat) (x0 x1 x2 x3 x4 v0 v1 v2 v3 v4 : Value) (h : w.heap[g]? = some (.cells #[x0, x1, x2, x3, x4] ty (0, 0))) :
    (((((w.setCell ⟨g, 0, none⟩ v0).setCell ⟨g, 1, none⟩ v1).setCell ⟨g, 2, none⟩ v2).setCell ⟨g, 3, none⟩ v3).setCell ⟨g, 4, none⟩ v4).heap[g]? = some (.cells #[v0, v1, v2, v3, v4] ty (0, 0)) ∧
    ∀ b, b ≠ g → (((((w.setCell ⟨g, 0, none⟩ v0).setCell ⟨g, 1, none⟩ v1).setCell ⟨g, 2, none⟩ v2).setCell ⟨g, 3, none⟩ v3).setCell ⟨g, 4, none⟩ v4).heap[b]? = w.heap[b]? := by
  have a0 := heap_setCell_same w g 0 _ ty v0 h
  have a1 := heap_setCell_same _ g 1 _ ty v1 a0
  have a2 := heap_setCell_same _ g 2 _ ty v2 a1
  have a3 := heap_setCell_same _ g 3 _ ty v3 a2
  have a4 := heap_setCell_same _ g 4 _ ty v4 a3
  refine ⟨by simpa using a4, fun b hb => ?_⟩
  rw [neq_set _ _ _ _ b hb, neq_set _ _ _ _ b hb, neq_set _ _ _ _ b hb, neq_set _ _ _ _ b hb, neq_set _ _ _ _ b hb]
set_option maxRecDepth 100000 in
set_option maxHeartbeats 2000000 in
theorem copyOf_any (n : Ct) (ca : Option Addr) (cp : Nat) (w : World) (hr : RdI w ca n.cs) (hl : n.cs.length ≤ 17592186044416) (hc : n.cs.length ≤ cp) :
    Calls Try.prog 43 #[n.v ca cp] w fun e w' => ∃ va cc, e = .returned (n.v va cc) ∧ OwnZ 3 w.heap.size w' (.slice va n.cs.length cc) n.cs ∧ n.cs.length ≤ cc ∧ Keep w w' := by
  obtain ⟨w1, hw1, k1, s1, r0, r1⟩ := boxes2n w #[Value.float FloatKind.f64 n.th, Value.slice ca n.cs.length cp, Value.int IntKind.i64 n.tr, Value.int IntKind.i64 n.fr, Value.int IntKind.i64 n.to] #[Value.float FloatKind.f64 0, Value.slice none 0 0, Value.int IntKind.i64 0, Value.int IntKind.i64 0, Value.int IntKind.i64 0] 57 57
  have hrd := hr.keep k1
  have c1 := cell_of_row w1 _ 1 _ 57 (0, 0) r0
  have hz0 : w.heap.size < w1.heap.size := (Array.getElem?_eq_some_iff.1 r0).1
  have hz1 : w.heap.size + 1 < w1.heap.size := (Array.getElem?_eq_some_iff.1 r1).1
  simp at c1
  rw [← hw1] at c1
  replace hw1 : Hid _ := hw1
  replace r0 : Hid _ := r0
  replace r1 : Hid _ := r1
  unfold Ct.v
  go_enter Try.func43, Try.ntmps43
  go_wp2_with (at_builtin; rw [hw1.out] at c1 ⊢; refine wpList_copyAny rfl _ _ rfl n.cs ca cp ?_ ?_ hrd hl ?_; rotate_left 2; intro v w2 hO k2; obtain ⟨va, cc, rfl, hcc, hrc⟩ := hO.shape; have q0 := (k2.block _ hz0).trans r0.out; have q1 := (k2.block _ hz1).trans r1.out; have e1 := cell_of_row w2 _ 1 _ 57 (0, 0) q0; have f1 := frozen_of_row w2 _ 1 _ 57 q0; have p0 := heap_setCell_same w2 w.heap.size 1 _ 57 (.slice va n.cs.length cc) q0; have p1 := (neq_set w2 w.heap.size 1 (.slice va n.cs.length cc) (w.heap.size + 1) (by omega)).trans q1; simp at p0 e1; have a0 := cell_of_row _ _ 0 _ 57 (0, 0) p0; have a1 := cell_of_row _ _ 1 _ 57 (0, 0) p0; have a2 := cell_of_row _ _ 2 _ 57 (0, 0) p0; have a3 := cell_of_row _ _ 3 _ 57 (0, 0) p0; have a4 := cell_of_row _ _ 4 _ 57 (0, 0) p0; have b0 := cell_of_row _ _ 0 _ 57 (0, 0) p1; have b1 := cell_of_row _ _ 1 _ 57 (0, 0) p1; have b2 := cell_of_row _ _ 2 _ 57 (0, 0) p1; have b3 := cell_of_row _ _ 3 _ 57 (0, 0) p1; have b4 := cell_of_row _ _ 4 _ 57 (0, 0) p1; have d0 := frozen_of_row _ _ 0 _ 57 p1; have d1 := frozen_of_row _ _ 1 _ 57 p1; have d2 := frozen_of_row _ _ 2 _ 57 p1; have d3 := frozen_of_row _ _ 3 _ 57 p1; have d4 := frozen_of_row _ _ 4 _ 57 p1; simp at a0 b0 a1 b1 a2 b2 a3 b3 a4 b4; clear hrc; replace p1 : Hid _ := p1; replace p0 : Hid _ := p0; replace q0 : Hid _ := q0; replace q1 : Hid _ := q1)
  rotate_left 1
  · rfl
  · rfl
  obtain ⟨F2, F1⟩ := store5 _ _ 57 _ _ _ _ _ (Value.float FloatKind.f64 n.th) (Value.slice va n.cs.length cc) (Value.int IntKind.i64 n.tr) (Value.int IntKind.i64 n.fr) (Value.int IntKind.i64 n.to) p1.out
  try simp only [Exit.inBlock, Exit.then]
  refine bodyPost_ret (results_cell_row rfl _ _ (w.heap.size + 1) 57 _ (0, 0) _ rfl F2 Try.underlying57 rfl (by kernel_rfl)) rfl ?_
  refine ⟨va, cc, rfl, ?_, hcc, ?_⟩
  · refine (hO.mono (by omega)).same ?_
    intro b hb
    have := (hO.block hb).1
    rw [F1 b (by omega), neq_set w2 w.heap.size 1 _ b (by omega)]
  · have kk : Keep w (w2.setCell ⟨w.heap.size, 1, none⟩ (.slice va n.cs.length cc)) := (k1.trans k2).setCell (p := ⟨w.heap.size, 1, none⟩) (Nat.le_refl _) _
    exact ((((kk.setCell (p := ⟨w.heap.size + 1, 0, none⟩) (by show w.heap.size ≤ w.heap.size + 1; omega) _).setCell (p := ⟨w.heap.size + 1, 1, none⟩) (by show w.heap.size ≤ w.heap.size + 1; omega) _).setCell (p := ⟨w.heap.size + 1, 2, none⟩) (by show w.heap.size ≤ w.heap.size + 1; omega) _).setCell (p := ⟨w.heap.size + 1, 3, none⟩) (by show w.heap.size ≤ w.heap.size + 1; omega) _).setCell (p := ⟨w.heap.size + 1, 4, none⟩) (by show w.heap.size ≤ w.heap.size + 1; omega) _
end Go.Proofs.Ytaogjiffnebnkaa
set_option linter.unusedVariables false
set_option linter.unusedSimpArgs false
namespace Go.Proofs.Ytaogjiffnebnkaa
open Go.RowKit Go.Shelf
attribute [local go_sem] run_store_float
theorem newsC (W : World) (n : Nat) (hn : W.heap.size = n) (N : Ct) (va : Option Addr) (cc : Nat) : ∀ j u, (UC [(N, va, cc)])[j]? = some u → (W.alloc (Obj.cells #[Value.float .f64 N.th, Value.slice va N.cs.length cc, Value.int .i64 N.tr, Value.int .i64 N.fr, Value.int .i64 N.to] 57)).cell? ((⟨n, 0, none⟩ : Addr).add j) = some u := by
  subst hn
  intro j u hj
  rw [Go.WideShapes.add_plain, Nat.zero_add, cell_of_row _ _ _ _ 57 (0, 0) (heap_alloc_new W _)]
  simpa [UC] using hj
theorem take_snoc {L : List Ct} {k : Nat} (hk : k < L.length) : L.take (k + 1) = L.take k ++ [L.getD k cd0] := by
  rw [List.take_succ_eq_append_getElem hk]; simp [List.getD, hk]
end Go.Proofs.Ytaogjiffnebnkaa

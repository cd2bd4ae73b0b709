import Derived.Test.YtbchinfmdioijaaProg
import Derived.Test.YtbchinfmdioijaaMath
import Derived.WalkKit
import Derived.WalkSpells
import Derived.WalkLawsBesides
import Derived.Deep.Draws
import Derived.Deep.QuietTactic
import Derived.BigQuiet
import Derived.Laws.Externs
import Derived.Laws.CopyOwn
set_option linter.unusedVariables false
set_option linter.unusedSimpArgs false
namespace Go.Proofs.Ytbchinfmdioijaa
open Go.RowKit
/-- An equation laid aside. -/
def Hid (p : Prop) : Prop := p
theorem Hid.out {p : Prop} (h : Hid p) : p := h
theorem ret_int {k : IntKind} {a b : Int} (h : a = b) : Ending.returned (.int k a) = .returned (.int k b) := by rw [h]
theorem ret_bool {a b : Bool} (h : a = b) : Ending.returned (.bool a) = .returned (.bool b) := by rw [h]
/-- Nothing that was there has turned. -/
def Keep (w w' : World) : Prop := Below w.heap.size w w'
theorem Keep.refl (w : World) : Keep w w := Below.refl _ _
theorem Keep.trans {a b c : World} (h : Keep a b) (k : Keep b c) : Keep a c := Below.trans h (Below.mono k h.size)
theorem Keep.drewN {a b : World} (h : Keep a b) (q : Nat) : Keep a (b.drewN q) := ⟨h.os, h.tape, h.output, h.size, h.block⟩
theorem Keep.drew {a b : World} (h : Keep a b) : Keep a b.drew := Below.drew h
theorem Keep.alloc {a b : World} (h : Keep a b) (o : Obj) : Keep a (b.alloc o) := Below.alloc h h.size o
theorem Keep.setCell {a b : World} (h : Keep a b) {p : Addr} (hp : a.heap.size ≤ p.block) (u : Value) : Keep a (b.setCell p u) := Below.setCell h hp u
theorem Keep.cell {a b : World} (h : Keep a b) {p : Addr} {v : Value} (hc : a.cell? p = some v) : b.cell? p = some v :=
  (Below.cell h (World.block_lt_of_cell? a p hc)).trans hc
theorem Keep.le {a b : World} (h : Keep a b) : a.heap.size ≤ b.heap.size := h.size
/-- A node. -/
structure Nd where
  kd : Nat
  vl : Int
  ft : Int
  th : Nat
  cs : List Int
  ms : Nat
  lf : Int
  rt : Int
/-- Its numbers fit. -/
structure Nd.Fit (n : Nd) : Prop where
  kd : n.kd < 256
  vl : -9223372036854775808 ≤ n.vl ∧ n.vl ≤ 9223372036854775807
  ft : -9223372036854775808 ≤ n.ft ∧ n.ft ≤ 9223372036854775807
  th : n.th < 18446744073709551616
  cs : ∀ x ∈ n.cs, -9223372036854775808 ≤ x ∧ x ≤ 9223372036854775807
  ms : n.ms < 256
  lf : -9223372036854775808 ≤ n.lf ∧ n.lf ≤ 9223372036854775807
  rt : -9223372036854775808 ≤ n.rt ∧ n.rt ≤ 9223372036854775807
/-- Whole numbers that can be read. -/
def RdI (w : World) (a : Option Addr) (l : List Int) : Prop :=
  ∀ j, j < l.length → ∃ b o, a = some ⟨b, o, none⟩ ∧ w.cell? ⟨b, o + j, none⟩ = some (.int .i64 (l.getD j 0))
theorem RdI.keep {w w' : World} {a : Option Addr} {l : List Int} (h : RdI w a l) (k : Keep w w') : RdI w' a l := by
  intro j hj
  obtain ⟨b, o, e, hc⟩ := h j hj
  exact ⟨b, o, e, k.cell hc⟩
theorem RdI.nil (w : World) (a : Option Addr) : RdI w a [] := by intro j hj; simp at hj
/-- A node as a value. -/
def Nd.v (n : Nd) (ca : Option Addr) (cap : Nat) : Value := .agg #[.int .u8 n.kd, .int .i64 n.vl, .int .i64 n.ft, .float .f64 n.th, .slice ca n.cs.length cap, .int .u8 n.ms, .int .i64 n.lf, .int .i64 n.rt]
/-- A node in memory. -/
structure NdAt (w : World) (b o : Nat) (n : Nd) (ca : Option Addr) (cap : Nat) : Prop where
  c0 : w.cell? ⟨b, o, none⟩ = some (.int .u8 n.kd)
  c1 : w.cell? ⟨b, o + 1, none⟩ = some (.int .i64 n.vl)
  c2 : w.cell? ⟨b, o + 2, none⟩ = some (.int .i64 n.ft)
  c3 : w.cell? ⟨b, o + 3, none⟩ = some (.float .f64 n.th)
  c4 : w.cell? ⟨b, o + 4, none⟩ = some (.slice ca n.cs.length cap)
  c5 : w.cell? ⟨b, o + 5, none⟩ = some (.int .u8 n.ms)
  c6 : w.cell? ⟨b, o + 6, none⟩ = some (.int .i64 n.lf)
  c7 : w.cell? ⟨b, o + 7, none⟩ = some (.int .i64 n.rt)
  rd : RdI w ca n.cs
  cp : n.cs.length ≤ cap
  sz : n.cs.length ≤ 17592186044416
  ok : n.Fit
theorem NdAt.keep {w w' : World} {b o : Nat} {n : Nd} {ca : Option Addr} {cap : Nat} (h : NdAt w b o n ca cap) (k : Keep w w') : NdAt w' b o n ca cap :=
  ⟨k.cell h.c0, k.cell h.c1, k.cell h.c2, k.cell h.c3, k.cell h.c4, k.cell h.c5, k.cell h.c6, k.cell h.c7, h.rd.keep k, h.cp, h.sz, h.ok⟩
def nd0 : Nd := ⟨0, 0, 0, 0, [], 0, 0, 0⟩
/-- Nodes that can be read. -/
def RdN (w : World) (a : Option Addr) (L : List Nd) : Prop :=
  ∀ j, j < L.length → ∃ b o ca cap, a = some ⟨b, o, none⟩ ∧ NdAt w b (o + j * 8) (L.getD j nd0) ca cap
theorem RdN.keep {w w' : World} {a : Option Addr} {L : List Nd} (h : RdN w a L) (k : Keep w w') : RdN w' a L := by
  intro j hj
  obtain ⟨b, o, ca, cap, e, hc⟩ := h j hj
  exact ⟨b, o, ca, cap, e, hc.keep k⟩
theorem f64bits (x : Nat) (w : World) : (callFunc 69 #[.float .f64 x]).run Try.prog w = .ok (.value (.int .u64 (x : Nat))) w := by
  rw [run_callFunc_extern Try.func69 (by kernel_rfl) (by kernel_rfl) (by kernel_rfl) (e := Extern.MathFloatBits.float64bits) (by kernel_rfl)]
  rfl
theorem f64from (x : Nat) (w : World) : (callFunc 78 #[.int .u64 (x : Nat)]).run Try.prog w = .ok (.value (.float .f64 x)) w := by
  rw [run_callFunc_extern Try.func78 (by kernel_rfl) (by kernel_rfl) (by kernel_rfl) (e := Extern.MathFloatBits.float64frombits) (by kernel_rfl)]
  rfl
theorem isZero_any (x : Nat) (w : World) :
    Calls Try.prog 75 #[.float .f64 x] w fun e w' => e = .returned (.bool (decide (x = 0))) ∧ w' = w := by
  have hb := f64bits x
  go_enter Try.func75, Try.ntmps75
  go_wp2
  go_ret
  exact ⟨ret_bool (by rw [Bool.eq_iff_iff]; simp), rfl⟩
theorem isSide_any (s : Nat) (w : World) :
    Calls Try.prog 85 #[.int .u8 s] w fun e w' => e = .returned (.bool (decide (s = 1 ∨ s = 2))) ∧ w' = w := by
  by_cases h1 : s = 1
  · subst h1
    go_enter Try.func85, Try.ntmps85
    go_wp2
    go_ret
    exact ⟨rfl, rfl⟩
  · have hb : ((s : Int) == 1) = false := by rw [beq_eq_false_iff_ne]; omega
    go_enter Try.func85, Try.ntmps85
    go_wp2
    go_ret
    exact ⟨ret_bool (by rw [Bool.eq_iff_iff]; simp; omega), rfl⟩
theorem isBelow_any (i : Int) (n : Nat) (w : World) :
    Calls Try.prog 86 #[.int .i64 i, .int .i64 (n : Nat)] w fun e w' => e = .returned (.bool (decide (1 ≤ i ∧ i < (n : Int)))) ∧ w' = w := by
  by_cases h1 : 1 ≤ i
  · go_enter Try.func86, Try.ntmps86
    go_wp2
    go_ret
    exact ⟨ret_bool (by rw [Bool.eq_iff_iff]; simp; omega), rfl⟩
  · go_enter Try.func86, Try.ntmps86
    go_wp2
    go_ret
    exact ⟨ret_bool (by rw [Bool.eq_iff_iff]; simp; omega), rfl⟩
theorem isInner_any (k : Nat) (w : World) :
    Calls Try.prog 50 #[.int .u8 k] w fun e w' => e = .returned (.bool (decide (k = 2 ∨ k = 3))) ∧ w' = w := by
  by_cases h1 : k = 2
  · subst h1
    go_enter Try.func50, Try.ntmps50
    go_wp2
    go_ret
    exact ⟨rfl, rfl⟩
  · have hb : ((k : Int) == 2) = false := by rw [beq_eq_false_iff_ne]; omega
    go_enter Try.func50, Try.ntmps50
    go_wp2
    go_ret
    exact ⟨ret_bool (by rw [Bool.eq_iff_iff]; simp; omega), rfl⟩
end Go.Proofs.Ytbchinfmdioijaa

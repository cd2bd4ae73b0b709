import Derived.Test.YtaogjiffnebnkaaProg
import Derived.Test.YtaogjiffnebnkaaP4
import Derived.Test.YtaogjiffnebnkaaRI
import Derived.WalkKit
import Derived.WalkSpells
import Derived.WalkLawsBesides
import Derived.Deep.Draws
import Derived.Deep.QuietTactic
import Derived.BigQuiet
import Derived.Laws.Externs
import Derived.Laws.CopyOwn
import Derived.RangeFuncBox
import Derived.RangeFuncLeaves
import Derived.RangeFuncCalls
import Derived.RangeFuncRecord
import Derived.Below
import Derived.Shelf.Abstract
import Derived.OwnWalkIn
import Derived.TacticsInMore
import Derived.LoopNIn
import Derived.LoopIn
import Derived.Sort.LoopGhostIn
import Derived.Deep.RegionLaw
import Derived.Deep.RegionWith
import Derived.Deep.RegionHeld3
import Derived.Stop.RegionWithIn
import Derived.RegionTactic
import Derived.Orders
import Derived.OrdersIn
import Derived.RegionIn
set_option linter.unusedVariables false
set_option linter.unusedSimpArgs false
namespace Go.Proofs.Ytaogjiffnebnkaa
open Go.RowKit Go.Shelf
attribute [local go_sem] run_store_float
theorem nd_list_ext {L M : List Nd} (hl : L.length = M.length) (h : ∀ j, j < L.length → L.getD j nd0 = M.getD j nd0) : L = M := by
  refine List.ext_getElem hl fun j h1 h2 => ?_
  have := h j h1
  simpa [List.getD, h1, h2] using this
/-- Whether two nodes differ in one of the first fields. -/
def alA (n m : Nd) : Nat → Bool
  | 0 => ((n.kd : Int) != (m.kd : Int))
  | 1 => (((n.kd : Int) != (m.kd : Int)) || ((n.vl : Int) != (m.vl : Int)))
  | 2 => ((((n.kd : Int) != (m.kd : Int)) || ((n.vl : Int) != (m.vl : Int))) || ((n.ft : Int) != (m.ft : Int)))
  | 3 => (((((n.kd : Int) != (m.kd : Int)) || ((n.vl : Int) != (m.vl : Int))) || ((n.ft : Int) != (m.ft : Int))) || ((n.th : Int) != (m.th : Int)))
  | 4 => ((((((n.kd : Int) != (m.kd : Int)) || ((n.vl : Int) != (m.vl : Int))) || ((n.ft : Int) != (m.ft : Int))) || ((n.th : Int) != (m.th : Int))) || (!decide (n.cs = m.cs)))
  | 5 => (((((((n.kd : Int) != (m.kd : Int)) || ((n.vl : Int) != (m.vl : Int))) || ((n.ft : Int) != (m.ft : Int))) || ((n.th : Int) != (m.th : Int))) || (!decide (n.cs = m.cs))) || ((n.ms : Int) != (m.ms : Int)))
  | 6 => ((((((((n.kd : Int) != (m.kd : Int)) || ((n.vl : Int) != (m.vl : Int))) || ((n.ft : Int) != (m.ft : Int))) || ((n.th : Int) != (m.th : Int))) || (!decide (n.cs = m.cs))) || ((n.ms : Int) != (m.ms : Int))) || ((n.lf : Int) != (m.lf : Int)))
  | 7 => (((((((((n.kd : Int) != (m.kd : Int)) || ((n.vl : Int) != (m.vl : Int))) || ((n.ft : Int) != (m.ft : Int))) || ((n.th : Int) != (m.th : Int))) || (!decide (n.cs = m.cs))) || ((n.ms : Int) != (m.ms : Int))) || ((n.lf : Int) != (m.lf : Int))) || ((n.rt : Int) != (m.rt : Int)))
  | _ => false
/-- What is there, unless it is not wanted. -/
def gdV (c : Bool) (v : Value) : Value := if c = true then undef else v
theorem gdV_no (v : Value) : gdV false v = v := rfl
theorem gdV_yes (v : Value) : gdV true v = undef := rfl
theorem alA_self (n : Nd) : alA n n 7 = false := by simp [alA]
theorem alA_eq {n m : Nd} (h : alA n m 7 = false) : n = m := by
  obtain ⟨kd1, vl1, ft1, th1, cs1, ms1, lf1, rt1⟩ := n
  obtain ⟨kd2, vl2, ft2, th2, cs2, ms2, lf2, rt2⟩ := m
  simp [alA] at h
  obtain ⟨⟨⟨⟨⟨⟨⟨h0, h1⟩, h2⟩, h3⟩, h4⟩, h5⟩, h6⟩, h7⟩ := h
  subst h1 h2 h4 h6 h7
  obtain rfl : kd1 = kd2 := by omega
  obtain rfl : th1 = th2 := by omega
  obtain rfl : ms1 = ms2 := by omega
  rfl
def alV (n m : Nd) (s : Nat) (ca1 ca2 : Option Addr) (cp1 cp2 : Nat) : Nat → Value
  | 0 => (.pointer (some ⟨s, 0, none⟩))
  | 1 => (.int .u8 n.kd)
  | 2 => (.pointer (some ⟨s + 1, 0, none⟩))
  | 3 => (.int .u8 m.kd)
  | 4 => (.bool ((n.kd : Int) != (m.kd : Int)))
  | 5 => (.bool (alA n m 0))
  | 6 => gdV (alA n m 0) (.pointer (some ⟨s, 1, none⟩))
  | 7 => gdV (alA n m 0) (.int .i64 n.vl)
  | 8 => gdV (alA n m 0) (.pointer (some ⟨s + 1, 1, none⟩))
  | 9 => gdV (alA n m 0) (.int .i64 m.vl)
  | 10 => gdV (alA n m 0) (.bool ((n.vl : Int) != (m.vl : Int)))
  | 11 => (.bool (alA n m 1))
  | 12 => (.bool (alA n m 1))
  | 13 => gdV (alA n m 1) (.pointer (some ⟨s, 2, none⟩))
  | 14 => gdV (alA n m 1) (.int .i64 n.ft)
  | 15 => gdV (alA n m 1) (.pointer (some ⟨s + 1, 2, none⟩))
  | 16 => gdV (alA n m 1) (.int .i64 m.ft)
  | 17 => gdV (alA n m 1) (.bool ((n.ft : Int) != (m.ft : Int)))
  | 18 => (.bool (alA n m 2))
  | 19 => (.bool (alA n m 2))
  | 20 => gdV (alA n m 2) (.pointer (some ⟨s, 3, none⟩))
  | 21 => gdV (alA n m 2) (.float .f64 n.th)
  | 22 => gdV (alA n m 2) (.int .u64 n.th)
  | 23 => gdV (alA n m 2) (.pointer (some ⟨s + 1, 3, none⟩))
  | 24 => gdV (alA n m 2) (.float .f64 m.th)
  | 25 => gdV (alA n m 2) (.int .u64 m.th)
  | 26 => gdV (alA n m 2) (.bool ((n.th : Int) != (m.th : Int)))
  | 27 => (.bool (alA n m 3))
  | 28 => (.bool (alA n m 3))
  | 29 => gdV (alA n m 3) (.pointer (some ⟨s, 4, none⟩))
  | 30 => gdV (alA n m 3) (.slice ca1 n.cs.length cp1)
  | 31 => gdV (alA n m 3) (.pointer (some ⟨s + 1, 4, none⟩))
  | 32 => gdV (alA n m 3) (.slice ca2 m.cs.length cp2)
  | 33 => gdV (alA n m 3) (.bool (decide (n.cs = m.cs)))
  | 34 => gdV (alA n m 3) (.bool (!decide (n.cs = m.cs)))
  | 35 => (.bool (alA n m 4))
  | 36 => (.bool (alA n m 4))
  | 37 => gdV (alA n m 4) (.pointer (some ⟨s, 5, none⟩))
  | 38 => gdV (alA n m 4) (.int .u8 n.ms)
  | 39 => gdV (alA n m 4) (.pointer (some ⟨s + 1, 5, none⟩))
  | 40 => gdV (alA n m 4) (.int .u8 m.ms)
  | 41 => gdV (alA n m 4) (.bool ((n.ms : Int) != (m.ms : Int)))
  | 42 => (.bool (alA n m 5))
  | 43 => (.bool (alA n m 5))
  | 44 => gdV (alA n m 5) (.pointer (some ⟨s, 6, none⟩))
  | 45 => gdV (alA n m 5) (.int .i64 n.lf)
  | 46 => gdV (alA n m 5) (.pointer (some ⟨s + 1, 6, none⟩))
  | 47 => gdV (alA n m 5) (.int .i64 m.lf)
  | 48 => gdV (alA n m 5) (.bool ((n.lf : Int) != (m.lf : Int)))
  | 49 => (.bool (alA n m 6))
  | 50 => (.bool (alA n m 6))
  | 51 => gdV (alA n m 6) (.pointer (some ⟨s, 7, none⟩))
  | 52 => gdV (alA n m 6) (.int .i64 n.rt)
  | 53 => gdV (alA n m 6) (.pointer (some ⟨s + 1, 7, none⟩))
  | 54 => gdV (alA n m 6) (.int .i64 m.rt)
  | 55 => gdV (alA n m 6) (.bool ((n.rt : Int) != (m.rt : Int)))
  | 56 => (.bool (alA n m 7))
  | _ => undef
def updA (x : Nat → Value) (i : Nat) (v : Value) : Nat → Value := fun j => if j = i then v else x j
def alI (V : Nat → Value) (w4 : World) (FR : (Nat → Value) → Act) (l : Array Bool) (A : Act) (w : World) : Prop :=
  l.size = 57 ∧ ∃ x : Nat → Value, A = FR x ∧ Keep w4 w ∧ ∀ j, l.getD j false = true → x j = V j
theorem alI.next {V : Nat → Value} {w4 : World} {FR : (Nat → Value) → Act} {l : Array Bool} {x : Nat → Value} {A' : Act} {w w' : World} (i : Nat) (hs : l.size = 57) (k0 : Keep w4 w) (h : ∀ j, l.getD j false = true → x j = V j) (k : Keep w w') (hA : A' = FR (updA x i (V i))) : alI V w4 FR (l.setIfInBounds i true) A' w' := by
  refine ⟨by simpa using hs, updA x i (V i), hA, k0.trans k, ?_⟩
  intro j hj
  rcases listed_set hj with rfl | hj
  · simp [updA]
  · by_cases e : j = i
    · subst e; simp [updA]
    · simp only [updA, if_neg e]; exact h j hj
set_option maxRecDepth 100000 in
set_option maxHeartbeats 4000000 in
theorem rAlike_any (a b : Option Addr) (ca cb : Nat) (oa ob : Int) (L M : List Nd) (w : World) (hLn : L.length ≤ 2199023255552) (ra : RdN w a L) (rb : RdN w b M) :
    Calls Try.prog 62 #[.agg #[.int .i64 oa, .slice a L.length ca], .agg #[.int .i64 ob, .slice b M.length cb]] w fun e w' => e = .returned (.bool (@decide (oa = ob ∧ L = M) (Classical.propDecidable _))) ∧ Keep w w' := by
  obtain ⟨w1, hw1, k1, s1, r0, r1⟩ := boxes2n w #[Value.int .i64 oa, Value.slice a L.length ca] #[Value.int .i64 ob, Value.slice b M.length cb] 54 54
  replace hw1 : Hid _ := hw1
  have c00 := cell_of_row _ _ 0 _ 54 (0, 0) r0
  have c01 := cell_of_row _ _ 1 _ 54 (0, 0) r0
  have c10 := cell_of_row _ _ 0 _ 54 (0, 0) r1
  have c11 := cell_of_row _ _ 1 _ 54 (0, 0) r1
  simp at c00 c01 c10 c11
  replace r0 : Hid _ := r0
  replace r1 : Hid _ := r1
  by_cases ho : oa = ob
  · subst ho
    by_cases hl : L.length = M.length
    · rw [← hl] at c11 hw1 r1
      go_enter Try.func62, Try.ntmps62
      rw [← hl]
      replace hl : Hid _ := hl
      go_wp2_with fail
      rw [hw1.out]
      go_loopw [25] (fun iv wr => ∃ k : Nat, k ≤ L.length ∧ iv = .int .i64 k ∧ Keep w1 wr ∧ Hid (∀ j, j < k → L.getD j nd0 = M.getD j nd0)) (fun iv _ => L.length - (intOf iv).toNat)
      case atStart => exact ⟨0, by omega, rfl, Keep.refl w1, by intro j hj; omega⟩
      case round =>
        obtain ⟨k, hk, rfl, kw, hinv⟩ := hrel
        have e11 := kw.cell c11
        by_cases hkl : k < L.length
        · have hkc : (k : Int) < (L.length : Int) := by omega
          have hkl2 : k < M.length := by have := hl.out; omega
          obtain ⟨b1, o1, ca1, cp1, rfl, h1⟩ := (ra.keep (k1.trans kw)) k hkl
          obtain ⟨b2, o2, ca2, cp2, rfl, h2⟩ := (rb.keep (k1.trans kw)) k hkl2
          obtain ⟨n, hn⟩ : ∃ n, L.getD k nd0 = n := ⟨_, rfl⟩
          obtain ⟨m, hm⟩ : ∃ m, M.getD k nd0 = m := ⟨_, rfl⟩
          rw [hn] at h1
          rw [hm] at h2
          have HX : Hid (L.getD k nd0 = n ∧ M.getD k nd0 = m) := ⟨hn, hm⟩
          clear hn hm
          have p0 := h1.c0
          have p1 := h1.c1
          have p2 := h1.c2
          have p3 := h1.c3
          have p4 := h1.c4
          have p5 := h1.c5
          have p6 := h1.c6
          have p7 := h1.c7
          have kx : Keep wr (wr.alloc (Obj.cells #[Value.int IntKind.u8 n.kd, Value.int IntKind.i64 n.vl, Value.int IntKind.i64 n.ft, Value.float FloatKind.f64 n.th, Value.slice ca1 n.cs.length cp1, Value.int IntKind.u8 n.ms, Value.int IntKind.i64 n.lf, Value.int IntKind.i64 n.rt] 83)) := (Keep.refl wr).alloc _
          have e11 := kx.cell e11
          have q0 := kx.cell h2.c0
          have q1 := kx.cell h2.c1
          have q2 := kx.cell h2.c2
          have q3 := kx.cell h2.c3
          have q4 := kx.cell h2.c4
          have q5 := kx.cell h2.c5
          have q6 := kx.cell h2.c6
          have q7 := kx.cell h2.c7
          go_wp2_with fail
          obtain ⟨w2, hw2, k2, s2, x0, x1⟩ := boxes2n wr #[Value.int IntKind.u8 n.kd, Value.int IntKind.i64 n.vl, Value.int IntKind.i64 n.ft, Value.float FloatKind.f64 n.th, Value.slice ca1 n.cs.length cp1, Value.int IntKind.u8 n.ms, Value.int IntKind.i64 n.lf, Value.int IntKind.i64 n.rt] #[Value.int IntKind.u8 m.kd, Value.int IntKind.i64 m.vl, Value.int IntKind.i64 m.ft, Value.float FloatKind.f64 m.th, Value.slice ca2 m.cs.length cp2, Value.int IntKind.u8 m.ms, Value.int IntKind.i64 m.lf, Value.int IntKind.i64 m.rt] 83 83
          rw [hw2]
          --REG
          have y0 := cell_of_row _ _ 0 _ 83 (0, 0) x0
          have y1 := cell_of_row _ _ 1 _ 83 (0, 0) x0
          have y2 := cell_of_row _ _ 2 _ 83 (0, 0) x0
          have y3 := cell_of_row _ _ 3 _ 83 (0, 0) x0
          have y4 := cell_of_row _ _ 4 _ 83 (0, 0) x0
          have y5 := cell_of_row _ _ 5 _ 83 (0, 0) x0
          have y6 := cell_of_row _ _ 6 _ 83 (0, 0) x0
          have y7 := cell_of_row _ _ 7 _ 83 (0, 0) x0
          have z0 := cell_of_row _ _ 0 _ 83 (0, 0) x1
          have z1 := cell_of_row _ _ 1 _ 83 (0, 0) x1
          have z2 := cell_of_row _ _ 2 _ 83 (0, 0) x1
          have z3 := cell_of_row _ _ 3 _ 83 (0, 0) x1
          have z4 := cell_of_row _ _ 4 _ 83 (0, 0) x1
          have z5 := cell_of_row _ _ 5 _ 83 (0, 0) x1
          have z6 := cell_of_row _ _ 6 _ 83 (0, 0) x1
          have z7 := cell_of_row _ _ 7 _ 83 (0, 0) x1
          simp only [List.getElem?_toArray, List.getElem?_cons_zero, List.getElem?_cons_succ] at y0 y1 y2 y3 y4 y5 y6 y7 z0 z1 z2 z3 z4 z5 z6 z7
          have ri1 := h1.rd.keep k2
          have ri2 := h2.rd.keep k2
          have sz1 := h1.sz
          have kk := k1.trans (kw.trans k2)
          clear p0 q0 p1 q1 p2 q2 p3 q3 p4 q4 p5 q5 p6 q6 p7 q7 x0 x1 hw2 h1 h2 s2 kx e11
          have hI := fun (wx : World) (kx : Keep w2 wx) => rInts_any ca1 ca2 cp1 cp2 n.cs m.cs wx sz1 (ri1.keep kx) (ri2.keep kx)
          clear ri1 ri2
          refine Code.wp_mono (Q := fun e a' w' => e = .normal ∧ ∃ x : Nat → Value, a' = { tmps := #[Value.agg #[Value.int IntKind.i64 oa, Value.slice (some ⟨b1, o1, none⟩) L.length ca], Value.agg #[Value.int IntKind.i64 oa, Value.slice (some ⟨b2, o2, none⟩) L.length cb], Value.pointer (some ⟨w.heap.size, 0, none⟩), Value.pointer (some ⟨w.heap.size + 1, 0, none⟩), u4, Value.int IntKind.i64 k, Value.pointer (some ⟨wr.heap.size, 0, none⟩), Value.pointer (some ⟨wr.heap.size + 1, 0, none⟩), Value.pointer (some ⟨w.heap.size, 0, none⟩), Value.int IntKind.i64 oa, Value.pointer (some ⟨w.heap.size + 1, 0, none⟩), Value.int IntKind.i64 oa, Value.bool false, Value.bool false, Value.pointer (some ⟨w.heap.size, 1, none⟩), Value.slice (some ⟨b1, o1, none⟩) L.length ca, Value.int IntKind.i64 L.length, Value.pointer (some ⟨w.heap.size + 1, 1, none⟩), Value.slice (some ⟨b2, o2, none⟩) L.length cb, Value.int IntKind.i64 L.length, Value.bool false, Value.bool false, Value.pointer (some ⟨w.heap.size, 1, none⟩), Value.slice (some ⟨b1, o1, none⟩) L.length ca, Value.int IntKind.i64 L.length, Value.int IntKind.i64 k, Value.bool true, Value.int IntKind.i64 k, Value.pointer (some ⟨b1, o1 + k * 8, none⟩), Value.agg #[Value.int IntKind.u8 n.kd, Value.int IntKind.i64 n.vl, Value.int IntKind.i64 n.ft, Value.float FloatKind.f64 n.th, Value.slice ca1 n.cs.length cp1, Value.int IntKind.u8 n.ms, Value.int IntKind.i64 n.lf, Value.int IntKind.i64 n.rt], Value.pointer (some ⟨w.heap.size + 1, 1, none⟩), Value.slice (some ⟨b2, o2, none⟩) L.length cb, Value.int IntKind.i64 k, Value.pointer (some ⟨b2, o2 + k * 8, none⟩), Value.agg #[Value.int IntKind.u8 m.kd, Value.int IntKind.i64 m.vl, Value.int IntKind.i64 m.ft, Value.float FloatKind.f64 m.th, Value.slice ca2 m.cs.length cp2, Value.int IntKind.u8 m.ms, Value.int IntKind.i64 m.lf, Value.int IntKind.i64 m.rt], x 0, x 1, x 2, x 3, x 4, x 5, x 6, x 7, x 8, x 9, x 10, x 11, x 12, x 13, x 14, x 15, x 16, x 17, x 18, x 19, x 20, x 21, x 22, x 23, x 24, x 25, x 26, x 27, x 28, x 29, x 30, x 31, x 32, x 33, x 34, x 35, x 36, x 37, x 38, x 39, x 40, x 41, x 42, x 43, x 44, x 45, x 46, x 47, x 48, x 49, x 50, x 51, x 52, x 53, x 54, x 55, x 56, u92], defers := [] } ∧ Keep w2 w' ∧ x 56 = .bool (alA n m 7)) ?_ ?_
          rotate_left
          · refine wp_region_inv (alI (alV n m wr.heap.size ca1 ca2 cp1 cp2) w2 (fun x => { tmps := #[Value.agg #[Value.int IntKind.i64 oa, Value.slice (some ⟨b1, o1, none⟩) L.length ca], Value.agg #[Value.int IntKind.i64 oa, Value.slice (some ⟨b2, o2, none⟩) L.length cb], Value.pointer (some ⟨w.heap.size, 0, none⟩), Value.pointer (some ⟨w.heap.size + 1, 0, none⟩), u4, Value.int IntKind.i64 k, Value.pointer (some ⟨wr.heap.size, 0, none⟩), Value.pointer (some ⟨wr.heap.size + 1, 0, none⟩), Value.pointer (some ⟨w.heap.size, 0, none⟩), Value.int IntKind.i64 oa, Value.pointer (some ⟨w.heap.size + 1, 0, none⟩), Value.int IntKind.i64 oa, Value.bool false, Value.bool false, Value.pointer (some ⟨w.heap.size, 1, none⟩), Value.slice (some ⟨b1, o1, none⟩) L.length ca, Value.int IntKind.i64 L.length, Value.pointer (some ⟨w.heap.size + 1, 1, none⟩), Value.slice (some ⟨b2, o2, none⟩) L.length cb, Value.int IntKind.i64 L.length, Value.bool false, Value.bool false, Value.pointer (some ⟨w.heap.size, 1, none⟩), Value.slice (some ⟨b1, o1, none⟩) L.length ca, Value.int IntKind.i64 L.length, Value.int IntKind.i64 k, Value.bool true, Value.int IntKind.i64 k, Value.pointer (some ⟨b1, o1 + k * 8, none⟩), Value.agg #[Value.int IntKind.u8 n.kd, Value.int IntKind.i64 n.vl, Value.int IntKind.i64 n.ft, Value.float FloatKind.f64 n.th, Value.slice ca1 n.cs.length cp1, Value.int IntKind.u8 n.ms, Value.int IntKind.i64 n.lf, Value.int IntKind.i64 n.rt], Value.pointer (some ⟨w.heap.size + 1, 1, none⟩), Value.slice (some ⟨b2, o2, none⟩) L.length cb, Value.int IntKind.i64 k, Value.pointer (some ⟨b2, o2 + k * 8, none⟩), Value.agg #[Value.int IntKind.u8 m.kd, Value.int IntKind.i64 m.vl, Value.int IntKind.i64 m.ft, Value.float FloatKind.f64 m.th, Value.slice ca2 m.cs.length cp2, Value.int IntKind.u8 m.ms, Value.int IntKind.i64 m.lf, Value.int IntKind.i64 m.rt], x 0, x 1, x 2, x 3, x 4, x 5, x 6, x 7, x 8, x 9, x 10, x 11, x 12, x 13, x 14, x 15, x 16, x 17, x 18, x 19, x 20, x 21, x 22, x 23, x 24, x 25, x 26, x 27, x 28, x 29, x 30, x 31, x 32, x 33, x 34, x 35, x 36, x 37, x 38, x 39, x 40, x 41, x 42, x 43, x 44, x 45, x 46, x 47, x 48, x 49, x 50, x 51, x 52, x 53, x 54, x 55, x 56, u92], defers := [] })) (by kernel_rfl) (fun l A w h => h.1) ⟨rfl, fun j => (#[u35, u36, u37, u38, u39, u40, u41, u42, u43, u44, u45, u46, u47, u48, u49, u50, u51, u52, u53, u54, u55, u56, u57, u58, u59, u60, u61, u62, u63, u64, u65, u66, u67, u68, u69, u70, u71, u72, u73, u74, u75, u76, u77, u78, u79, u80, u81, u82, u83, u84, u85, u86, u87, u88, u89, u90, u91] : Array Value).getD j undef, rfl, (Keep.refl w2).drew, fun j hj => ?_⟩ ?_ ?_
            · exfalso
              simp [Array.getD] at hj
            · rintro l A w ii ⟨hs, x, rfl, kw, hF⟩ hi
              obtain ⟨-, o, ho, hd⟩ := mem_ready.1 hi
              have hlt := (Array.getElem?_eq_some_iff.1 ho).1
              match ii, hlt with
              | 0, _ =>
                simp only [List.getElem?_toArray, List.getElem?_cons_succ, List.getElem?_cons_zero, Option.some.injEq] at ho
                subst ho
                have vk : alV n m wr.heap.size ca1 ca2 cp1 cp2 0 = (.pointer (some ⟨wr.heap.size, 0, none⟩)) := rfl
                refine wpOp_step rfl (fun K hK => ?_)
                go_simp
                exact hK _ _ (alI.next 0 hs kw hF (Keep.refl w) (by rw [vk]; simp [updA]))
              | 1, _ =>
                simp only [List.getElem?_toArray, List.getElem?_cons_succ, List.getElem?_cons_zero, Option.some.injEq] at ho
                subst ho
                have e0 : x 0 = (.pointer (some ⟨wr.heap.size, 0, none⟩)) := hF 0 (hd { on := 0, ground := .data } (by simp) rfl)
                have vk : alV n m wr.heap.size ca1 ca2 cp1 cp2 1 = (.int .u8 n.kd) := rfl
                refine wpOp_step rfl (fun K hK => ?_)
                have cc := kw.cell y0
                go_simp
                exact hK _ _ (alI.next 1 hs kw hF (Keep.refl w) (by rw [vk]; simp [updA, e0]))
              | 2, _ =>
                simp only [List.getElem?_toArray, List.getElem?_cons_succ, List.getElem?_cons_zero, Option.some.injEq] at ho
                subst ho
                have vk : alV n m wr.heap.size ca1 ca2 cp1 cp2 2 = (.pointer (some ⟨wr.heap.size + 1, 0, none⟩)) := rfl
                refine wpOp_step rfl (fun K hK => ?_)
                go_simp
                exact hK _ _ (alI.next 2 hs kw hF (Keep.refl w) (by rw [vk]; simp [updA]))
              | 3, _ =>
                simp only [List.getElem?_toArray, List.getElem?_cons_succ, List.getElem?_cons_zero, Option.some.injEq] at ho
                subst ho
                have e2 : x 2 = (.pointer (some ⟨wr.heap.size + 1, 0, none⟩)) := hF 2 (hd { on := 2, ground := .data } (by simp) rfl)
                have vk : alV n m wr.heap.size ca1 ca2 cp1 cp2 3 = (.int .u8 m.kd) := rfl
                refine wpOp_step rfl (fun K hK => ?_)
                have cc := kw.cell z0
                go_simp
                exact hK _ _ (alI.next 3 hs kw hF (Keep.refl w) (by rw [vk]; simp [updA, e2]))
              | 4, _ =>
                simp only [List.getElem?_toArray, List.getElem?_cons_succ, List.getElem?_cons_zero, Option.some.injEq] at ho
                subst ho
                have e1 : x 1 = (.int .u8 n.kd) := hF 1 (hd { on := 1, ground := .data } (by simp) rfl)
                have e3 : x 3 = (.int .u8 m.kd) := hF 3 (hd { on := 3, ground := .data } (by simp) rfl)
                have vk : alV n m wr.heap.size ca1 ca2 cp1 cp2 4 = (.bool ((n.kd : Int) != (m.kd : Int))) := rfl
                refine wpOp_step rfl (fun K hK => ?_)
                go_simp
                exact hK _ _ (alI.next 4 hs kw hF (Keep.refl w) (by rw [vk]; simp [updA, e1, e3]))
              | 5, _ =>
                simp only [List.getElem?_toArray, List.getElem?_cons_succ, List.getElem?_cons_zero, Option.some.injEq] at ho
                subst ho
                have e4 : x 4 = (.bool ((n.kd : Int) != (m.kd : Int))) := hF 4 (hd { on := 4, ground := .data } (by simp) rfl)
                have vk : alV n m wr.heap.size ca1 ca2 cp1 cp2 5 = (.bool (alA n m 0)) := rfl
                have ac : alA n m 0 = ((n.kd : Int) != (m.kd : Int)) := rfl
                rw [ac] at vk
                refine wpOp_step rfl (fun K hK => ?_)
                go_simp
                exact hK _ _ (alI.next 5 hs kw hF (Keep.refl w) (by rw [vk]; simp [updA, e4]))
              | 6, _ =>
                simp only [List.getElem?_toArray, List.getElem?_cons_succ, List.getElem?_cons_zero, Option.some.injEq] at ho
                subst ho
                have e5 : x 5 = .bool (alA n m 0) := hF 5 (hd { on := 5, ground := .guard } (by simp) rfl)
                have vk : alV n m wr.heap.size ca1 ca2 cp1 cp2 6 = gdV (alA n m 0) (.pointer (some ⟨wr.heap.size, 1, none⟩)) := rfl
                cases hc : alA n m 0
                · simp only [hc, gdV_no, gdV_yes, Bool.false_or, Bool.true_or] at e5 vk
                  refine wpOp_step rfl (fun K hK => ?_)
                  go_simp
                  exact hK _ _ (alI.next 6 hs kw hF (Keep.refl w) (by rw [vk]; simp [updA, e5]))
                · simp only [hc, gdV_no, gdV_yes, Bool.false_or, Bool.true_or] at e5 vk
                  refine wpOp_step rfl (fun K hK => ?_)
                  go_simp
                  exact hK _ _ (alI.next 6 hs kw hF (Keep.refl w) (by rw [vk]; simp [updA, e5]))
              | 7, _ =>
                simp only [List.getElem?_toArray, List.getElem?_cons_succ, List.getElem?_cons_zero, Option.some.injEq] at ho
                subst ho
                have e6 : x 6 = gdV (alA n m 0) (.pointer (some ⟨wr.heap.size, 1, none⟩)) := hF 6 (hd { on := 6, ground := .data } (by simp) rfl)
                have e5 : x 5 = .bool (alA n m 0) := hF 5 (hd { on := 5, ground := .guard } (by simp) rfl)
                have vk : alV n m wr.heap.size ca1 ca2 cp1 cp2 7 = gdV (alA n m 0) (.int .i64 n.vl) := rfl
                cases hc : alA n m 0
                · simp only [hc, gdV_no, gdV_yes, Bool.false_or, Bool.true_or] at e6 e5 vk
                  refine wpOp_step rfl (fun K hK => ?_)
                  have cc := kw.cell y1
                  go_simp
                  exact hK _ _ (alI.next 7 hs kw hF (Keep.refl w) (by rw [vk]; simp [updA, e6, e5]))
                · simp only [hc, gdV_no, gdV_yes, Bool.false_or, Bool.true_or] at e6 e5 vk
                  refine wpOp_step rfl (fun K hK => ?_)
                  go_simp
                  exact hK _ _ (alI.next 7 hs kw hF (Keep.refl w) (by rw [vk]; simp [updA, e6, e5]))
              | 8, _ =>
                simp only [List.getElem?_toArray, List.getElem?_cons_succ, List.getElem?_cons_zero, Option.some.injEq] at ho
                subst ho
                have e5 : x 5 = .bool (alA n m 0) := hF 5 (hd { on := 5, ground := .guard } (by simp) rfl)
                have vk : alV n m wr.heap.size ca1 ca2 cp1 cp2 8 = gdV (alA n m 0) (.pointer (some ⟨wr.heap.size + 1, 1, none⟩)) := rfl
                cases hc : alA n m 0
                · simp only [hc, gdV_no, gdV_yes, Bool.false_or, Bool.true_or] at e5 vk
                  refine wpOp_step rfl (fun K hK => ?_)
                  go_simp
                  exact hK _ _ (alI.next 8 hs kw hF (Keep.refl w) (by rw [vk]; simp [updA, e5]))
                · simp only [hc, gdV_no, gdV_yes, Bool.false_or, Bool.true_or] at e5 vk
                  refine wpOp_step rfl (fun K hK => ?_)
                  go_simp
                  exact hK _ _ (alI.next 8 hs kw hF (Keep.refl w) (by rw [vk]; simp [updA, e5]))
              | 9, _ =>
                simp only [List.getElem?_toArray, List.getElem?_cons_succ, List.getElem?_cons_zero, Option.some.injEq] at ho
                subst ho
                have e8 : x 8 = gdV (alA n m 0) (.pointer (some ⟨wr.heap.size + 1, 1, none⟩)) := hF 8 (hd { on := 8, ground := .data } (by simp) rfl)
                have e5 : x 5 = .bool (alA n m 0) := hF 5 (hd { on := 5, ground := .guard } (by simp) rfl)
                have vk : alV n m wr.heap.size ca1 ca2 cp1 cp2 9 = gdV (alA n m 0) (.int .i64 m.vl) := rfl
                cases hc : alA n m 0
                · simp only [hc, gdV_no, gdV_yes, Bool.false_or, Bool.true_or] at e8 e5 vk
                  refine wpOp_step rfl (fun K hK => ?_)
                  have cc := kw.cell z1
                  go_simp
                  exact hK _ _ (alI.next 9 hs kw hF (Keep.refl w) (by rw [vk]; simp [updA, e8, e5]))
                · simp only [hc, gdV_no, gdV_yes, Bool.false_or, Bool.true_or] at e8 e5 vk
                  refine wpOp_step rfl (fun K hK => ?_)
                  go_simp
                  exact hK _ _ (alI.next 9 hs kw hF (Keep.refl w) (by rw [vk]; simp [updA, e8, e5]))
              | 10, _ =>
                simp only [List.getElem?_toArray, List.getElem?_cons_succ, List.getElem?_cons_zero, Option.some.injEq] at ho
                subst ho
                have e7 : x 7 = gdV (alA n m 0) (.int .i64 n.vl) := hF 7 (hd { on := 7, ground := .data } (by simp) rfl)
                have e9 : x 9 = gdV (alA n m 0) (.int .i64 m.vl) := hF 9 (hd { on := 9, ground := .data } (by simp) rfl)
                have e5 : x 5 = .bool (alA n m 0) := hF 5 (hd { on := 5, ground := .guard } (by simp) rfl)
                have vk : alV n m wr.heap.size ca1 ca2 cp1 cp2 10 = gdV (alA n m 0) (.bool ((n.vl : Int) != (m.vl : Int))) := rfl
                cases hc : alA n m 0
                · simp only [hc, gdV_no, gdV_yes, Bool.false_or, Bool.true_or] at e7 e9 e5 vk
                  refine wpOp_step rfl (fun K hK => ?_)
                  go_simp
                  exact hK _ _ (alI.next 10 hs kw hF (Keep.refl w) (by rw [vk]; simp [updA, e7, e9, e5]))
                · simp only [hc, gdV_no, gdV_yes, Bool.false_or, Bool.true_or] at e7 e9 e5 vk
                  refine wpOp_step rfl (fun K hK => ?_)
                  go_simp
                  exact hK _ _ (alI.next 10 hs kw hF (Keep.refl w) (by rw [vk]; simp [updA, e7, e9, e5]))
              | 11, _ =>
                simp only [List.getElem?_toArray, List.getElem?_cons_succ, List.getElem?_cons_zero, Option.some.injEq] at ho
                subst ho
                have e5 : x 5 = (.bool (alA n m 0)) := hF 5 (hd { on := 5, ground := .data } (by simp) rfl)
                have e10 : x 10 = gdV (alA n m 0) (.bool ((n.vl : Int) != (m.vl : Int))) := hF 10 (hd { on := 10, ground := .data } (by simp) rfl)
                have vk : alV n m wr.heap.size ca1 ca2 cp1 cp2 11 = (.bool (alA n m 1)) := rfl
                have ac : alA n m 1 = (alA n m 0 || ((n.vl : Int) != (m.vl : Int))) := rfl
                cases hc : alA n m 0
                · simp only [hc, gdV_no, gdV_yes, Bool.false_or, Bool.true_or] at e5 e10 vk ac
                  rw [ac] at vk
                  refine wpOp_step rfl (fun K hK => ?_)
                  go_simp
                  exact hK _ _ (alI.next 11 hs kw hF (Keep.refl w) (by rw [vk]; simp [updA, e5, e10]))
                · simp only [hc, gdV_no, gdV_yes, Bool.false_or, Bool.true_or] at e5 e10 vk ac
                  rw [ac] at vk
                  refine wpOp_step rfl (fun K hK => ?_)
                  go_simp
                  exact hK _ _ (alI.next 11 hs kw hF (Keep.refl w) (by rw [vk]; simp [updA, e5, e10]))
              | 12, _ =>
                simp only [List.getElem?_toArray, List.getElem?_cons_succ, List.getElem?_cons_zero, Option.some.injEq] at ho
                subst ho
                have e11 : x 11 = (.bool (alA n m 1)) := hF 11 (hd { on := 11, ground := .data } (by simp) rfl)
                have vk : alV n m wr.heap.size ca1 ca2 cp1 cp2 12 = (.bool (alA n m 1)) := rfl
                refine wpOp_step rfl (fun K hK => ?_)
                go_simp
                exact hK _ _ (alI.next 12 hs kw hF (Keep.refl w) (by rw [vk]; simp [updA, e11]))
              | 13, _ =>
                simp only [List.getElem?_toArray, List.getElem?_cons_succ, List.getElem?_cons_zero, Option.some.injEq] at ho
                subst ho
                have e12 : x 12 = .bool (alA n m 1) := hF 12 (hd { on := 12, ground := .guard } (by simp) rfl)
                have vk : alV n m wr.heap.size ca1 ca2 cp1 cp2 13 = gdV (alA n m 1) (.pointer (some ⟨wr.heap.size, 2, none⟩)) := rfl
                cases hc : alA n m 1
                · simp only [hc, gdV_no, gdV_yes, Bool.false_or, Bool.true_or] at e12 vk
                  refine wpOp_step rfl (fun K hK => ?_)
                  go_simp
                  exact hK _ _ (alI.next 13 hs kw hF (Keep.refl w) (by rw [vk]; simp [updA, e12]))
                · simp only [hc, gdV_no, gdV_yes, Bool.false_or, Bool.true_or] at e12 vk
                  refine wpOp_step rfl (fun K hK => ?_)
                  go_simp
                  exact hK _ _ (alI.next 13 hs kw hF (Keep.refl w) (by rw [vk]; simp [updA, e12]))
              | 14, _ =>
                simp only [List.getElem?_toArray, List.getElem?_cons_succ, List.getElem?_cons_zero, Option.some.injEq] at ho
                subst ho
                have e13 : x 13 = gdV (alA n m 1) (.pointer (some ⟨wr.heap.size, 2, none⟩)) := hF 13 (hd { on := 13, ground := .data } (by simp) rfl)
                have e12 : x 12 = .bool (alA n m 1) := hF 12 (hd { on := 12, ground := .guard } (by simp) rfl)
                have vk : alV n m wr.heap.size ca1 ca2 cp1 cp2 14 = gdV (alA n m 1) (.int .i64 n.ft) := rfl
                cases hc : alA n m 1
                · simp only [hc, gdV_no, gdV_yes, Bool.false_or, Bool.true_or] at e13 e12 vk
                  refine wpOp_step rfl (fun K hK => ?_)
                  have cc := kw.cell y2
                  go_simp
                  exact hK _ _ (alI.next 14 hs kw hF (Keep.refl w) (by rw [vk]; simp [updA, e13, e12]))
                · simp only [hc, gdV_no, gdV_yes, Bool.false_or, Bool.true_or] at e13 e12 vk
                  refine wpOp_step rfl (fun K hK => ?_)
                  go_simp
                  exact hK _ _ (alI.next 14 hs kw hF (Keep.refl w) (by rw [vk]; simp [updA, e13, e12]))
              | 15, _ =>
                simp only [List.getElem?_toArray, List.getElem?_cons_succ, List.getElem?_cons_zero, Option.some.injEq] at ho
                subst ho
                have e12 : x 12 = .bool (alA n m 1) := hF 12 (hd { on := 12, ground := .guard } (by simp) rfl)
                have vk : alV n m wr.heap.size ca1 ca2 cp1 cp2 15 = gdV (alA n m 1) (.pointer (some ⟨wr.heap.size + 1, 2, none⟩)) := rfl
                cases hc : alA n m 1
                · simp only [hc, gdV_no, gdV_yes, Bool.false_or, Bool.true_or] at e12 vk
                  refine wpOp_step rfl (fun K hK => ?_)
                  go_simp
                  exact hK _ _ (alI.next 15 hs kw hF (Keep.refl w) (by rw [vk]; simp [updA, e12]))
                · simp only [hc, gdV_no, gdV_yes, Bool.false_or, Bool.true_or] at e12 vk
                  refine wpOp_step rfl (fun K hK => ?_)
                  go_simp
                  exact hK _ _ (alI.next 15 hs kw hF (Keep.refl w) (by rw [vk]; simp [updA, e12]))
              | 16, _ =>
                simp only [List.getElem?_toArray, List.getElem?_cons_succ, List.getElem?_cons_zero, Option.some.injEq] at ho
                subst ho
                have e15 : x 15 = gdV (alA n m 1) (.pointer (some ⟨wr.heap.size + 1, 2, none⟩)) := hF 15 (hd { on := 15, ground := .data } (by simp) rfl)
                have e12 : x 12 = .bool (alA n m 1) := hF 12 (hd { on := 12, ground := .guard } (by simp) rfl)
                have vk : alV n m wr.heap.size ca1 ca2 cp1 cp2 16 = gdV (alA n m 1) (.int .i64 m.ft) := rfl
                cases hc : alA n m 1
                · simp only [hc, gdV_no, gdV_yes, Bool.false_or, Bool.true_or] at e15 e12 vk
                  refine wpOp_step rfl (fun K hK => ?_)
                  have cc := kw.cell z2
                  go_simp
                  exact hK _ _ (alI.next 16 hs kw hF (Keep.refl w) (by rw [vk]; simp [updA, e15, e12]))
                · simp only [hc, gdV_no, gdV_yes, Bool.false_or, Bool.true_or] at e15 e12 vk
                  refine wpOp_step rfl (fun K hK => ?_)
                  go_simp
                  exact hK _ _ (alI.next 16 hs kw hF (Keep.refl w) (by rw [vk]; simp [updA, e15, e12]))
              | 17, _ =>
                simp only [List.getElem?_toArray, List.getElem?_cons_succ, List.getElem?_cons_zero, Option.some.injEq] at ho
                subst ho
                have e14 : x 14 = gdV (alA n m 1) (.int .i64 n.ft) := hF 14 (hd { on := 14, ground := .data } (by simp) rfl)
                have e16 : x 16 = gdV (alA n m 1) (.int .i64 m.ft) := hF 16 (hd { on := 16, ground := .data } (by simp) rfl)
                have e12 : x 12 = .bool (alA n m 1) := hF 12 (hd { on := 12, ground := .guard } (by simp) rfl)
                have vk : alV n m wr.heap.size ca1 ca2 cp1 cp2 17 = gdV (alA n m 1) (.bool ((n.ft : Int) != (m.ft : Int))) := rfl
                cases hc : alA n m 1
                · simp only [hc, gdV_no, gdV_yes, Bool.false_or, Bool.true_or] at e14 e16 e12 vk
                  refine wpOp_step rfl (fun K hK => ?_)
                  go_simp
                  exact hK _ _ (alI.next 17 hs kw hF (Keep.refl w) (by rw [vk]; simp [updA, e14, e16, e12]))
                · simp only [hc, gdV_no, gdV_yes, Bool.false_or, Bool.true_or] at e14 e16 e12 vk
                  refine wpOp_step rfl (fun K hK => ?_)
                  go_simp
                  exact hK _ _ (alI.next 17 hs kw hF (Keep.refl w) (by rw [vk]; simp [updA, e14, e16, e12]))
              | 18, _ =>
                simp only [List.getElem?_toArray, List.getElem?_cons_succ, List.getElem?_cons_zero, Option.some.injEq] at ho
                subst ho
                have e12 : x 12 = (.bool (alA n m 1)) := hF 12 (hd { on := 12, ground := .data } (by simp) rfl)
                have e17 : x 17 = gdV (alA n m 1) (.bool ((n.ft : Int) != (m.ft : Int))) := hF 17 (hd { on := 17, ground := .data } (by simp) rfl)
                have vk : alV n m wr.heap.size ca1 ca2 cp1 cp2 18 = (.bool (alA n m 2)) := rfl
                have ac : alA n m 2 = (alA n m 1 || ((n.ft : Int) != (m.ft : Int))) := rfl
                cases hc : alA n m 1
                · simp only [hc, gdV_no, gdV_yes, Bool.false_or, Bool.true_or] at e12 e17 vk ac
                  rw [ac] at vk
                  refine wpOp_step rfl (fun K hK => ?_)
                  go_simp
                  exact hK _ _ (alI.next 18 hs kw hF (Keep.refl w) (by rw [vk]; simp [updA, e12, e17]))
                · simp only [hc, gdV_no, gdV_yes, Bool.false_or, Bool.true_or] at e12 e17 vk ac
                  rw [ac] at vk
                  refine wpOp_step rfl (fun K hK => ?_)
                  go_simp
                  exact hK _ _ (alI.next 18 hs kw hF (Keep.refl w) (by rw [vk]; simp [updA, e12, e17]))
              | 19, _ =>
                simp only [List.getElem?_toArray, List.getElem?_cons_succ, List.getElem?_cons_zero, Option.some.injEq] at ho
                subst ho
                have e18 : x 18 = (.bool (alA n m 2)) := hF 18 (hd { on := 18, ground := .data } (by simp) rfl)
                have vk : alV n m wr.heap.size ca1 ca2 cp1 cp2 19 = (.bool (alA n m 2)) := rfl
                refine wpOp_step rfl (fun K hK => ?_)
                go_simp
                exact hK _ _ (alI.next 19 hs kw hF (Keep.refl w) (by rw [vk]; simp [updA, e18]))
              | 20, _ =>
                simp only [List.getElem?_toArray, List.getElem?_cons_succ, List.getElem?_cons_zero, Option.some.injEq] at ho
                subst ho
                have e19 : x 19 = .bool (alA n m 2) := hF 19 (hd { on := 19, ground := .guard } (by simp) rfl)
                have vk : alV n m wr.heap.size ca1 ca2 cp1 cp2 20 = gdV (alA n m 2) (.pointer (some ⟨wr.heap.size, 3, none⟩)) := rfl
                cases hc : alA n m 2
                · simp only [hc, gdV_no, gdV_yes, Bool.false_or, Bool.true_or] at e19 vk
                  refine wpOp_step rfl (fun K hK => ?_)
                  go_simp
                  exact hK _ _ (alI.next 20 hs kw hF (Keep.refl w) (by rw [vk]; simp [updA, e19]))
                · simp only [hc, gdV_no, gdV_yes, Bool.false_or, Bool.true_or] at e19 vk
                  refine wpOp_step rfl (fun K hK => ?_)
                  go_simp
                  exact hK _ _ (alI.next 20 hs kw hF (Keep.refl w) (by rw [vk]; simp [updA, e19]))
              | 21, _ =>
                simp only [List.getElem?_toArray, List.getElem?_cons_succ, List.getElem?_cons_zero, Option.some.injEq] at ho
                subst ho
                have e20 : x 20 = gdV (alA n m 2) (.pointer (some ⟨wr.heap.size, 3, none⟩)) := hF 20 (hd { on := 20, ground := .data } (by simp) rfl)
                have e19 : x 19 = .bool (alA n m 2) := hF 19 (hd { on := 19, ground := .guard } (by simp) rfl)
                have vk : alV n m wr.heap.size ca1 ca2 cp1 cp2 21 = gdV (alA n m 2) (.float .f64 n.th) := rfl
                cases hc : alA n m 2
                · simp only [hc, gdV_no, gdV_yes, Bool.false_or, Bool.true_or] at e20 e19 vk
                  refine wpOp_step rfl (fun K hK => ?_)
                  have cc := kw.cell y3
                  go_simp
                  exact hK _ _ (alI.next 21 hs kw hF (Keep.refl w) (by rw [vk]; simp [updA, e20, e19]))
                · simp only [hc, gdV_no, gdV_yes, Bool.false_or, Bool.true_or] at e20 e19 vk
                  refine wpOp_step rfl (fun K hK => ?_)
                  go_simp
                  exact hK _ _ (alI.next 21 hs kw hF (Keep.refl w) (by rw [vk]; simp [updA, e20, e19]))
              | 22, _ =>
                simp only [List.getElem?_toArray, List.getElem?_cons_succ, List.getElem?_cons_zero, Option.some.injEq] at ho
                subst ho
                have e21 : x 21 = gdV (alA n m 2) (.float .f64 n.th) := hF 21 (hd { on := 21, ground := .data } (by simp) rfl)
                have e19 : x 19 = .bool (alA n m 2) := hF 19 (hd { on := 19, ground := .guard } (by simp) rfl)
                have vk : alV n m wr.heap.size ca1 ca2 cp1 cp2 22 = gdV (alA n m 2) (.int .u64 n.th) := rfl
                cases hc : alA n m 2
                · simp only [hc, gdV_no, gdV_yes, Bool.false_or, Bool.true_or] at e21 e19 vk
                  refine wpOp_step rfl (fun K hK => ?_)
                  have hb := f64bits n.th
                  go_simp
                  exact hK _ _ (alI.next 22 hs kw hF (Keep.refl w) (by rw [vk]; simp [updA, e21, e19]))
                · simp only [hc, gdV_no, gdV_yes, Bool.false_or, Bool.true_or] at e21 e19 vk
                  refine wpOp_step rfl (fun K hK => ?_)
                  go_simp
                  exact hK _ _ (alI.next 22 hs kw hF (Keep.refl w) (by rw [vk]; simp [updA, e21, e19]))
              | 23, _ =>
                simp only [List.getElem?_toArray, List.getElem?_cons_succ, List.getElem?_cons_zero, Option.some.injEq] at ho
                subst ho
                have e19 : x 19 = .bool (alA n m 2) := hF 19 (hd { on := 19, ground := .guard } (by simp) rfl)
                have vk : alV n m wr.heap.size ca1 ca2 cp1 cp2 23 = gdV (alA n m 2) (.pointer (some ⟨wr.heap.size + 1, 3, none⟩)) := rfl
                cases hc : alA n m 2
                · simp only [hc, gdV_no, gdV_yes, Bool.false_or, Bool.true_or] at e19 vk
                  refine wpOp_step rfl (fun K hK => ?_)
                  go_simp
                  exact hK _ _ (alI.next 23 hs kw hF (Keep.refl w) (by rw [vk]; simp [updA, e19]))
                · simp only [hc, gdV_no, gdV_yes, Bool.false_or, Bool.true_or] at e19 vk
                  refine wpOp_step rfl (fun K hK => ?_)
                  go_simp
                  exact hK _ _ (alI.next 23 hs kw hF (Keep.refl w) (by rw [vk]; simp [updA, e19]))
              | 24, _ =>
                simp only [List.getElem?_toArray, List.getElem?_cons_succ, List.getElem?_cons_zero, Option.some.injEq] at ho
                subst ho
                have e23 : x 23 = gdV (alA n m 2) (.pointer (some ⟨wr.heap.size + 1, 3, none⟩)) := hF 23 (hd { on := 23, ground := .data } (by simp) rfl)
                have e19 : x 19 = .bool (alA n m 2) := hF 19 (hd { on := 19, ground := .guard } (by simp) rfl)
                have vk : alV n m wr.heap.size ca1 ca2 cp1 cp2 24 = gdV (alA n m 2) (.float .f64 m.th) := rfl
                cases hc : alA n m 2
                · simp only [hc, gdV_no, gdV_yes, Bool.false_or, Bool.true_or] at e23 e19 vk
                  refine wpOp_step rfl (fun K hK => ?_)
                  have cc := kw.cell z3
                  go_simp
                  exact hK _ _ (alI.next 24 hs kw hF (Keep.refl w) (by rw [vk]; simp [updA, e23, e19]))
                · simp only [hc, gdV_no, gdV_yes, Bool.false_or, Bool.true_or] at e23 e19 vk
                  refine wpOp_step rfl (fun K hK => ?_)
                  go_simp
                  exact hK _ _ (alI.next 24 hs kw hF (Keep.refl w) (by rw [vk]; simp [updA, e23, e19]))
              | 25, _ =>
                simp only [List.getElem?_toArray, List.getElem?_cons_succ, List.getElem?_cons_zero, Option.some.injEq] at ho
                subst ho
                have e24 : x 24 = gdV (alA n m 2) (.float .f64 m.th) := hF 24 (hd { on := 24, ground := .data } (by simp) rfl)
                have e19 : x 19 = .bool (alA n m 2) := hF 19 (hd { on := 19, ground := .guard } (by simp) rfl)
                have vk : alV n m wr.heap.size ca1 ca2 cp1 cp2 25 = gdV (alA n m 2) (.int .u64 m.th) := rfl
                cases hc : alA n m 2
                · simp only [hc, gdV_no, gdV_yes, Bool.false_or, Bool.true_or] at e24 e19 vk
                  refine wpOp_step rfl (fun K hK => ?_)
                  have hb := f64bits m.th
                  go_simp
                  exact hK _ _ (alI.next 25 hs kw hF (Keep.refl w) (by rw [vk]; simp [updA, e24, e19]))
                · simp only [hc, gdV_no, gdV_yes, Bool.false_or, Bool.true_or] at e24 e19 vk
                  refine wpOp_step rfl (fun K hK => ?_)
                  go_simp
                  exact hK _ _ (alI.next 25 hs kw hF (Keep.refl w) (by rw [vk]; simp [updA, e24, e19]))
              | 26, _ =>
                simp only [List.getElem?_toArray, List.getElem?_cons_succ, List.getElem?_cons_zero, Option.some.injEq] at ho
                subst ho
                have e22 : x 22 = gdV (alA n m 2) (.int .u64 n.th) := hF 22 (hd { on := 22, ground := .data } (by simp) rfl)
                have e25 : x 25 = gdV (alA n m 2) (.int .u64 m.th) := hF 25 (hd { on := 25, ground := .data } (by simp) rfl)
                have e19 : x 19 = .bool (alA n m 2) := hF 19 (hd { on := 19, ground := .guard } (by simp) rfl)
                have vk : alV n m wr.heap.size ca1 ca2 cp1 cp2 26 = gdV (alA n m 2) (.bool ((n.th : Int) != (m.th : Int))) := rfl
                cases hc : alA n m 2
                · simp only [hc, gdV_no, gdV_yes, Bool.false_or, Bool.true_or] at e22 e25 e19 vk
                  refine wpOp_step rfl (fun K hK => ?_)
                  go_simp
                  exact hK _ _ (alI.next 26 hs kw hF (Keep.refl w) (by rw [vk]; simp [updA, e22, e25, e19]))
                · simp only [hc, gdV_no, gdV_yes, Bool.false_or, Bool.true_or] at e22 e25 e19 vk
                  refine wpOp_step rfl (fun K hK => ?_)
                  go_simp
                  exact hK _ _ (alI.next 26 hs kw hF (Keep.refl w) (by rw [vk]; simp [updA, e22, e25, e19]))
              | 27, _ =>
                simp only [List.getElem?_toArray, List.getElem?_cons_succ, List.getElem?_cons_zero, Option.some.injEq] at ho
                subst ho
                have e19 : x 19 = (.bool (alA n m 2)) := hF 19 (hd { on := 19, ground := .data } (by simp) rfl)
                have e26 : x 26 = gdV (alA n m 2) (.bool ((n.th : Int) != (m.th : Int))) := hF 26 (hd { on := 26, ground := .data } (by simp) rfl)
                have vk : alV n m wr.heap.size ca1 ca2 cp1 cp2 27 = (.bool (alA n m 3)) := rfl
                have ac : alA n m 3 = (alA n m 2 || ((n.th : Int) != (m.th : Int))) := rfl
                cases hc : alA n m 2
                · simp only [hc, gdV_no, gdV_yes, Bool.false_or, Bool.true_or] at e19 e26 vk ac
                  rw [ac] at vk
                  refine wpOp_step rfl (fun K hK => ?_)
                  go_simp
                  exact hK _ _ (alI.next 27 hs kw hF (Keep.refl w) (by rw [vk]; simp [updA, e19, e26]))
                · simp only [hc, gdV_no, gdV_yes, Bool.false_or, Bool.true_or] at e19 e26 vk ac
                  rw [ac] at vk
                  refine wpOp_step rfl (fun K hK => ?_)
                  go_simp
                  exact hK _ _ (alI.next 27 hs kw hF (Keep.refl w) (by rw [vk]; simp [updA, e19, e26]))
              | 28, _ =>
                simp only [List.getElem?_toArray, List.getElem?_cons_succ, List.getElem?_cons_zero, Option.some.injEq] at ho
                subst ho
                have e27 : x 27 = (.bool (alA n m 3)) := hF 27 (hd { on := 27, ground := .data } (by simp) rfl)
                have vk : alV n m wr.heap.size ca1 ca2 cp1 cp2 28 = (.bool (alA n m 3)) := rfl
                refine wpOp_step rfl (fun K hK => ?_)
                go_simp
                exact hK _ _ (alI.next 28 hs kw hF (Keep.refl w) (by rw [vk]; simp [updA, e27]))
              | 29, _ =>
                simp only [List.getElem?_toArray, List.getElem?_cons_succ, List.getElem?_cons_zero, Option.some.injEq] at ho
                subst ho
                have e28 : x 28 = .bool (alA n m 3) := hF 28 (hd { on := 28, ground := .guard } (by simp) rfl)
                have vk : alV n m wr.heap.size ca1 ca2 cp1 cp2 29 = gdV (alA n m 3) (.pointer (some ⟨wr.heap.size, 4, none⟩)) := rfl
                cases hc : alA n m 3
                · simp only [hc, gdV_no, gdV_yes, Bool.false_or, Bool.true_or] at e28 vk
                  refine wpOp_step rfl (fun K hK => ?_)
                  go_simp
                  exact hK _ _ (alI.next 29 hs kw hF (Keep.refl w) (by rw [vk]; simp [updA, e28]))
                · simp only [hc, gdV_no, gdV_yes, Bool.false_or, Bool.true_or] at e28 vk
                  refine wpOp_step rfl (fun K hK => ?_)
                  go_simp
                  exact hK _ _ (alI.next 29 hs kw hF (Keep.refl w) (by rw [vk]; simp [updA, e28]))
              | 30, _ =>
                simp only [List.getElem?_toArray, List.getElem?_cons_succ, List.getElem?_cons_zero, Option.some.injEq] at ho
                subst ho
                have e29 : x 29 = gdV (alA n m 3) (.pointer (some ⟨wr.heap.size, 4, none⟩)) := hF 29 (hd { on := 29, ground := .data } (by simp) rfl)
                have e28 : x 28 = .bool (alA n m 3) := hF 28 (hd { on := 28, ground := .guard } (by simp) rfl)
                have vk : alV n m wr.heap.size ca1 ca2 cp1 cp2 30 = gdV (alA n m 3) (.slice ca1 n.cs.length cp1) := rfl
                cases hc : alA n m 3
                · simp only [hc, gdV_no, gdV_yes, Bool.false_or, Bool.true_or] at e29 e28 vk
                  refine wpOp_step rfl (fun K hK => ?_)
                  have cc := kw.cell y4
                  go_simp
                  exact hK _ _ (alI.next 30 hs kw hF (Keep.refl w) (by rw [vk]; simp [updA, e29, e28]))
                · simp only [hc, gdV_no, gdV_yes, Bool.false_or, Bool.true_or] at e29 e28 vk
                  refine wpOp_step rfl (fun K hK => ?_)
                  go_simp
                  exact hK _ _ (alI.next 30 hs kw hF (Keep.refl w) (by rw [vk]; simp [updA, e29, e28]))
              | 31, _ =>
                simp only [List.getElem?_toArray, List.getElem?_cons_succ, List.getElem?_cons_zero, Option.some.injEq] at ho
                subst ho
                have e28 : x 28 = .bool (alA n m 3) := hF 28 (hd { on := 28, ground := .guard } (by simp) rfl)
                have vk : alV n m wr.heap.size ca1 ca2 cp1 cp2 31 = gdV (alA n m 3) (.pointer (some ⟨wr.heap.size + 1, 4, none⟩)) := rfl
                cases hc : alA n m 3
                · simp only [hc, gdV_no, gdV_yes, Bool.false_or, Bool.true_or] at e28 vk
                  refine wpOp_step rfl (fun K hK => ?_)
                  go_simp
                  exact hK _ _ (alI.next 31 hs kw hF (Keep.refl w) (by rw [vk]; simp [updA, e28]))
                · simp only [hc, gdV_no, gdV_yes, Bool.false_or, Bool.true_or] at e28 vk
                  refine wpOp_step rfl (fun K hK => ?_)
                  go_simp
                  exact hK _ _ (alI.next 31 hs kw hF (Keep.refl w) (by rw [vk]; simp [updA, e28]))
              | 32, _ =>
                simp only [List.getElem?_toArray, List.getElem?_cons_succ, List.getElem?_cons_zero, Option.some.injEq] at ho
                subst ho
                have e31 : x 31 = gdV (alA n m 3) (.pointer (some ⟨wr.heap.size + 1, 4, none⟩)) := hF 31 (hd { on := 31, ground := .data } (by simp) rfl)
                have e28 : x 28 = .bool (alA n m 3) := hF 28 (hd { on := 28, ground := .guard } (by simp) rfl)
                have vk : alV n m wr.heap.size ca1 ca2 cp1 cp2 32 = gdV (alA n m 3) (.slice ca2 m.cs.length cp2) := rfl
                cases hc : alA n m 3
                · simp only [hc, gdV_no, gdV_yes, Bool.false_or, Bool.true_or] at e31 e28 vk
                  refine wpOp_step rfl (fun K hK => ?_)
                  have cc := kw.cell z4
                  go_simp
                  exact hK _ _ (alI.next 32 hs kw hF (Keep.refl w) (by rw [vk]; simp [updA, e31, e28]))
                · simp only [hc, gdV_no, gdV_yes, Bool.false_or, Bool.true_or] at e31 e28 vk
                  refine wpOp_step rfl (fun K hK => ?_)
                  go_simp
                  exact hK _ _ (alI.next 32 hs kw hF (Keep.refl w) (by rw [vk]; simp [updA, e31, e28]))
              | 33, _ =>
                simp only [List.getElem?_toArray, List.getElem?_cons_succ, List.getElem?_cons_zero, Option.some.injEq] at ho
                subst ho
                have e30 : x 30 = gdV (alA n m 3) (.slice ca1 n.cs.length cp1) := hF 30 (hd { on := 30, ground := .data } (by simp) rfl)
                have e32 : x 32 = gdV (alA n m 3) (.slice ca2 m.cs.length cp2) := hF 32 (hd { on := 32, ground := .data } (by simp) rfl)
                have e28 : x 28 = .bool (alA n m 3) := hF 28 (hd { on := 28, ground := .guard } (by simp) rfl)
                have vk : alV n m wr.heap.size ca1 ca2 cp1 cp2 33 = gdV (alA n m 3) (.bool (decide (n.cs = m.cs))) := rfl
                cases hc : alA n m 3
                · simp only [hc, gdV_no, gdV_yes, Bool.false_or, Bool.true_or] at e30 e32 e28 vk
                  refine wpOp_step rfl (fun K hK => ?_)
                  go_simp
                  refine (hI _ kw).mono ?_
                  rintro e wS ⟨rfl, kS⟩
                  exact hK _ _ (alI.next 33 hs kw hF kS (by rw [vk]; simp [updA, e30, e32, e28]))
                · simp only [hc, gdV_no, gdV_yes, Bool.false_or, Bool.true_or] at e30 e32 e28 vk
                  refine wpOp_step rfl (fun K hK => ?_)
                  go_simp
                  exact hK _ _ (alI.next 33 hs kw hF (Keep.refl w) (by rw [vk]; simp [updA, e30, e32, e28]))
              | 34, _ =>
                simp only [List.getElem?_toArray, List.getElem?_cons_succ, List.getElem?_cons_zero, Option.some.injEq] at ho
                subst ho
                have e33 : x 33 = gdV (alA n m 3) (.bool (decide (n.cs = m.cs))) := hF 33 (hd { on := 33, ground := .data } (by simp) rfl)
                have e28 : x 28 = .bool (alA n m 3) := hF 28 (hd { on := 28, ground := .guard } (by simp) rfl)
                have vk : alV n m wr.heap.size ca1 ca2 cp1 cp2 34 = gdV (alA n m 3) (.bool (!decide (n.cs = m.cs))) := rfl
                cases hc : alA n m 3
                · simp only [hc, gdV_no, gdV_yes, Bool.false_or, Bool.true_or] at e33 e28 vk
                  refine wpOp_step rfl (fun K hK => ?_)
                  go_simp
                  exact hK _ _ (alI.next 34 hs kw hF (Keep.refl w) (by rw [vk]; simp [updA, e33, e28]))
                · simp only [hc, gdV_no, gdV_yes, Bool.false_or, Bool.true_or] at e33 e28 vk
                  refine wpOp_step rfl (fun K hK => ?_)
                  go_simp
                  exact hK _ _ (alI.next 34 hs kw hF (Keep.refl w) (by rw [vk]; simp [updA, e33, e28]))
              | 35, _ =>
                simp only [List.getElem?_toArray, List.getElem?_cons_succ, List.getElem?_cons_zero, Option.some.injEq] at ho
                subst ho
                have e28 : x 28 = (.bool (alA n m 3)) := hF 28 (hd { on := 28, ground := .data } (by simp) rfl)
                have e34 : x 34 = gdV (alA n m 3) (.bool (!decide (n.cs = m.cs))) := hF 34 (hd { on := 34, ground := .data } (by simp) rfl)
                have vk : alV n m wr.heap.size ca1 ca2 cp1 cp2 35 = (.bool (alA n m 4)) := rfl
                have ac : alA n m 4 = (alA n m 3 || (!decide (n.cs = m.cs))) := rfl
                cases hc : alA n m 3
                · simp only [hc, gdV_no, gdV_yes, Bool.false_or, Bool.true_or] at e28 e34 vk ac
                  rw [ac] at vk
                  refine wpOp_step rfl (fun K hK => ?_)
                  go_simp
                  exact hK _ _ (alI.next 35 hs kw hF (Keep.refl w) (by rw [vk]; simp [updA, e28, e34]))
                · simp only [hc, gdV_no, gdV_yes, Bool.false_or, Bool.true_or] at e28 e34 vk ac
                  rw [ac] at vk
                  refine wpOp_step rfl (fun K hK => ?_)
                  go_simp
                  exact hK _ _ (alI.next 35 hs kw hF (Keep.refl w) (by rw [vk]; simp [updA, e28, e34]))
              | 36, _ =>
                simp only [List.getElem?_toArray, List.getElem?_cons_succ, List.getElem?_cons_zero, Option.some.injEq] at ho
                subst ho
                have e35 : x 35 = (.bool (alA n m 4)) := hF 35 (hd { on := 35, ground := .data } (by simp) rfl)
                have vk : alV n m wr.heap.size ca1 ca2 cp1 cp2 36 = (.bool (alA n m 4)) := rfl
                refine wpOp_step rfl (fun K hK => ?_)
                go_simp
                exact hK _ _ (alI.next 36 hs kw hF (Keep.refl w) (by rw [vk]; simp [updA, e35]))
              | 37, _ =>
                simp only [List.getElem?_toArray, List.getElem?_cons_succ, List.getElem?_cons_zero, Option.some.injEq] at ho
                subst ho
                have e36 : x 36 = .bool (alA n m 4) := hF 36 (hd { on := 36, ground := .guard } (by simp) rfl)
                have vk : alV n m wr.heap.size ca1 ca2 cp1 cp2 37 = gdV (alA n m 4) (.pointer (some ⟨wr.heap.size, 5, none⟩)) := rfl
                cases hc : alA n m 4
                · simp only [hc, gdV_no, gdV_yes, Bool.false_or, Bool.true_or] at e36 vk
                  refine wpOp_step rfl (fun K hK => ?_)
                  go_simp
                  exact hK _ _ (alI.next 37 hs kw hF (Keep.refl w) (by rw [vk]; simp [updA, e36]))
                · simp only [hc, gdV_no, gdV_yes, Bool.false_or, Bool.true_or] at e36 vk
                  refine wpOp_step rfl (fun K hK => ?_)
                  go_simp
                  exact hK _ _ (alI.next 37 hs kw hF (Keep.refl w) (by rw [vk]; simp [updA, e36]))
              | 38, _ =>
                simp only [List.getElem?_toArray, List.getElem?_cons_succ, List.getElem?_cons_zero, Option.some.injEq] at ho
                subst ho
                have e37 : x 37 = gdV (alA n m 4) (.pointer (some ⟨wr.heap.size, 5, none⟩)) := hF 37 (hd { on := 37, ground := .data } (by simp) rfl)
                have e36 : x 36 = .bool (alA n m 4) := hF 36 (hd { on := 36, ground := .guard } (by simp) rfl)
                have vk : alV n m wr.heap.size ca1 ca2 cp1 cp2 38 = gdV (alA n m 4) (.int .u8 n.ms) := rfl
                cases hc : alA n m 4
                · simp only [hc, gdV_no, gdV_yes, Bool.false_or, Bool.true_or] at e37 e36 vk
                  refine wpOp_step rfl (fun K hK => ?_)
                  have cc := kw.cell y5
                  go_simp
                  exact hK _ _ (alI.next 38 hs kw hF (Keep.refl w) (by rw [vk]; simp [updA, e37, e36]))
                · simp only [hc, gdV_no, gdV_yes, Bool.false_or, Bool.true_or] at e37 e36 vk
                  refine wpOp_step rfl (fun K hK => ?_)
                  go_simp
                  exact hK _ _ (alI.next 38 hs kw hF (Keep.refl w) (by rw [vk]; simp [updA, e37, e36]))
              | 39, _ =>
                simp only [List.getElem?_toArray, List.getElem?_cons_succ, List.getElem?_cons_zero, Option.some.injEq] at ho
                subst ho
                have e36 : x 36 = .bool (alA n m 4) := hF 36 (hd { on := 36, ground := .guard } (by simp) rfl)
                have vk : alV n m wr.heap.size ca1 ca2 cp1 cp2 39 = gdV (alA n m 4) (.pointer (some ⟨wr.heap.size + 1, 5, none⟩)) := rfl
                cases hc : alA n m 4
                · simp only [hc, gdV_no, gdV_yes, Bool.false_or, Bool.true_or] at e36 vk
                  refine wpOp_step rfl (fun K hK => ?_)
                  go_simp
                  exact hK _ _ (alI.next 39 hs kw hF (Keep.refl w) (by rw [vk]; simp [updA, e36]))
                · simp only [hc, gdV_no, gdV_yes, Bool.false_or, Bool.true_or] at e36 vk
                  refine wpOp_step rfl (fun K hK => ?_)
                  go_simp
                  exact hK _ _ (alI.next 39 hs kw hF (Keep.refl w) (by rw [vk]; simp [updA, e36]))
              | 40, _ =>
                simp only [List.getElem?_toArray, List.getElem?_cons_succ, List.getElem?_cons_zero, Option.some.injEq] at ho
                subst ho
                have e39 : x 39 = gdV (alA n m 4) (.pointer (some ⟨wr.heap.size + 1, 5, none⟩)) := hF 39 (hd { on := 39, ground := .data } (by simp) rfl)
                have e36 : x 36 = .bool (alA n m 4) := hF 36 (hd { on := 36, ground := .guard } (by simp) rfl)
                have vk : alV n m wr.heap.size ca1 ca2 cp1 cp2 40 = gdV (alA n m 4) (.int .u8 m.ms) := rfl
                cases hc : alA n m 4
                · simp only [hc, gdV_no, gdV_yes, Bool.false_or, Bool.true_or] at e39 e36 vk
                  refine wpOp_step rfl (fun K hK => ?_)
                  have cc := kw.cell z5
                  go_simp
                  exact hK _ _ (alI.next 40 hs kw hF (Keep.refl w) (by rw [vk]; simp [updA, e39, e36]))
                · simp only [hc, gdV_no, gdV_yes, Bool.false_or, Bool.true_or] at e39 e36 vk
                  refine wpOp_step rfl (fun K hK => ?_)
                  go_simp
                  exact hK _ _ (alI.next 40 hs kw hF (Keep.refl w) (by rw [vk]; simp [updA, e39, e36]))
              | 41, _ =>
                simp only [List.getElem?_toArray, List.getElem?_cons_succ, List.getElem?_cons_zero, Option.some.injEq] at ho
                subst ho
                have e38 : x 38 = gdV (alA n m 4) (.int .u8 n.ms) := hF 38 (hd { on := 38, ground := .data } (by simp) rfl)
                have e40 : x 40 = gdV (alA n m 4) (.int .u8 m.ms) := hF 40 (hd { on := 40, ground := .data } (by simp) rfl)
                have e36 : x 36 = .bool (alA n m 4) := hF 36 (hd { on := 36, ground := .guard } (by simp) rfl)
                have vk : alV n m wr.heap.size ca1 ca2 cp1 cp2 41 = gdV (alA n m 4) (.bool ((n.ms : Int) != (m.ms : Int))) := rfl
                cases hc : alA n m 4
                · simp only [hc, gdV_no, gdV_yes, Bool.false_or, Bool.true_or] at e38 e40 e36 vk
                  refine wpOp_step rfl (fun K hK => ?_)
                  go_simp
                  exact hK _ _ (alI.next 41 hs kw hF (Keep.refl w) (by rw [vk]; simp [updA, e38, e40, e36]))
                · simp only [hc, gdV_no, gdV_yes, Bool.false_or, Bool.true_or] at e38 e40 e36 vk
                  refine wpOp_step rfl (fun K hK => ?_)
                  go_simp
                  exact hK _ _ (alI.next 41 hs kw hF (Keep.refl w) (by rw [vk]; simp [updA, e38, e40, e36]))
              | 42, _ =>
                simp only [List.getElem?_toArray, List.getElem?_cons_succ, List.getElem?_cons_zero, Option.some.injEq] at ho
                subst ho
                have e36 : x 36 = (.bool (alA n m 4)) := hF 36 (hd { on := 36, ground := .data } (by simp) rfl)
                have e41 : x 41 = gdV (alA n m 4) (.bool ((n.ms : Int) != (m.ms : Int))) := hF 41 (hd { on := 41, ground := .data } (by simp) rfl)
                have vk : alV n m wr.heap.size ca1 ca2 cp1 cp2 42 = (.bool (alA n m 5)) := rfl
                have ac : alA n m 5 = (alA n m 4 || ((n.ms : Int) != (m.ms : Int))) := rfl
                cases hc : alA n m 4
                · simp only [hc, gdV_no, gdV_yes, Bool.false_or, Bool.true_or] at e36 e41 vk ac
                  rw [ac] at vk
                  refine wpOp_step rfl (fun K hK => ?_)
                  go_simp
                  exact hK _ _ (alI.next 42 hs kw hF (Keep.refl w) (by rw [vk]; simp [updA, e36, e41]))
                · simp only [hc, gdV_no, gdV_yes, Bool.false_or, Bool.true_or] at e36 e41 vk ac
                  rw [ac] at vk
                  refine wpOp_step rfl (fun K hK => ?_)
                  go_simp
                  exact hK _ _ (alI.next 42 hs kw hF (Keep.refl w) (by rw [vk]; simp [updA, e36, e41]))
              | 43, _ =>
                simp only [List.getElem?_toArray, List.getElem?_cons_succ, List.getElem?_cons_zero, Option.some.injEq] at ho
                subst ho
                have e42 : x 42 = (.bool (alA n m 5)) := hF 42 (hd { on := 42, ground := .data } (by simp) rfl)
                have vk : alV n m wr.heap.size ca1 ca2 cp1 cp2 43 = (.bool (alA n m 5)) := rfl
                refine wpOp_step rfl (fun K hK => ?_)
                go_simp
                exact hK _ _ (alI.next 43 hs kw hF (Keep.refl w) (by rw [vk]; simp [updA, e42]))
              | 44, _ =>
                simp only [List.getElem?_toArray, List.getElem?_cons_succ, List.getElem?_cons_zero, Option.some.injEq] at ho
                subst ho
                have e43 : x 43 = .bool (alA n m 5) := hF 43 (hd { on := 43, ground := .guard } (by simp) rfl)
                have vk : alV n m wr.heap.size ca1 ca2 cp1 cp2 44 = gdV (alA n m 5) (.pointer (some ⟨wr.heap.size, 6, none⟩)) := rfl
                cases hc : alA n m 5
                · simp only [hc, gdV_no, gdV_yes, Bool.false_or, Bool.true_or] at e43 vk
                  refine wpOp_step rfl (fun K hK => ?_)
                  go_simp
                  exact hK _ _ (alI.next 44 hs kw hF (Keep.refl w) (by rw [vk]; simp [updA, e43]))
                · simp only [hc, gdV_no, gdV_yes, Bool.false_or, Bool.true_or] at e43 vk
                  refine wpOp_step rfl (fun K hK => ?_)
                  go_simp
                  exact hK _ _ (alI.next 44 hs kw hF (Keep.refl w) (by rw [vk]; simp [updA, e43]))
              | 45, _ =>
                simp only [List.getElem?_toArray, List.getElem?_cons_succ, List.getElem?_cons_zero, Option.some.injEq] at ho
                subst ho
                have e44 : x 44 = gdV (alA n m 5) (.pointer (some ⟨wr.heap.size, 6, none⟩)) := hF 44 (hd { on := 44, ground := .data } (by simp) rfl)
                have e43 : x 43 = .bool (alA n m 5) := hF 43 (hd { on := 43, ground := .guard } (by simp) rfl)
                have vk : alV n m wr.heap.size ca1 ca2 cp1 cp2 45 = gdV (alA n m 5) (.int .i64 n.lf) := rfl
                cases hc : alA n m 5
                · simp only [hc, gdV_no, gdV_yes, Bool.false_or, Bool.true_or] at e44 e43 vk
                  refine wpOp_step rfl (fun K hK => ?_)
                  have cc := kw.cell y6
                  go_simp
                  exact hK _ _ (alI.next 45 hs kw hF (Keep.refl w) (by rw [vk]; simp [updA, e44, e43]))
                · simp only [hc, gdV_no, gdV_yes, Bool.false_or, Bool.true_or] at e44 e43 vk
                  refine wpOp_step rfl (fun K hK => ?_)
                  go_simp
                  exact hK _ _ (alI.next 45 hs kw hF (Keep.refl w) (by rw [vk]; simp [updA, e44, e43]))
              | 46, _ =>
                simp only [List.getElem?_toArray, List.getElem?_cons_succ, List.getElem?_cons_zero, Option.some.injEq] at ho
                subst ho
                have e43 : x 43 = .bool (alA n m 5) := hF 43 (hd { on := 43, ground := .guard } (by simp) rfl)
                have vk : alV n m wr.heap.size ca1 ca2 cp1 cp2 46 = gdV (alA n m 5) (.pointer (some ⟨wr.heap.size + 1, 6, none⟩)) := rfl
                cases hc : alA n m 5
                · simp only [hc, gdV_no, gdV_yes, Bool.false_or, Bool.true_or] at e43 vk
                  refine wpOp_step rfl (fun K hK => ?_)
                  go_simp
                  exact hK _ _ (alI.next 46 hs kw hF (Keep.refl w) (by rw [vk]; simp [updA, e43]))
                · simp only [hc, gdV_no, gdV_yes, Bool.false_or, Bool.true_or] at e43 vk
                  refine wpOp_step rfl (fun K hK => ?_)
                  go_simp
                  exact hK _ _ (alI.next 46 hs kw hF (Keep.refl w) (by rw [vk]; simp [updA, e43]))
              | 47, _ =>
                simp only [List.getElem?_toArray, List.getElem?_cons_succ, List.getElem?_cons_zero, Option.some.injEq] at ho
                subst ho
                have e46 : x 46 = gdV (alA n m 5) (.pointer (some ⟨wr.heap.size + 1, 6, none⟩)) := hF 46 (hd { on := 46, ground := .data } (by simp) rfl)
                have e43 : x 43 = .bool (alA n m 5) := hF 43 (hd { on := 43, ground := .guard } (by simp) rfl)
                have vk : alV n m wr.heap.size ca1 ca2 cp1 cp2 47 = gdV (alA n m 5) (.int .i64 m.lf) := rfl
                cases hc : alA n m 5
                · simp only [hc, gdV_no, gdV_yes, Bool.false_or, Bool.true_or] at e46 e43 vk
                  refine wpOp_step rfl (fun K hK => ?_)
                  have cc := kw.cell z6
                  go_simp
                  exact hK _ _ (alI.next 47 hs kw hF (Keep.refl w) (by rw [vk]; simp [updA, e46, e43]))
                · simp only [hc, gdV_no, gdV_yes, Bool.false_or, Bool.true_or] at e46 e43 vk
                  refine wpOp_step rfl (fun K hK => ?_)
                  go_simp
                  exact hK _ _ (alI.next 47 hs kw hF (Keep.refl w) (by rw [vk]; simp [updA, e46, e43]))
              | 48, _ =>
                simp only [List.getElem?_toArray, List.getElem?_cons_succ, List.getElem?_cons_zero, Option.some.injEq] at ho
                subst ho
                have e45 : x 45 = gdV (alA n m 5) (.int .i64 n.lf) := hF 45 (hd { on := 45, ground := .data } (by simp) rfl)
                have e47 : x 47 = gdV (alA n m 5) (.int .i64 m.lf) := hF 47 (hd { on := 47, ground := .data } (by simp) rfl)
                have e43 : x 43 = .bool (alA n m 5) := hF 43 (hd { on := 43, ground := .guard } (by simp) rfl)
                have vk : alV n m wr.heap.size ca1 ca2 cp1 cp2 48 = gdV (alA n m 5) (.bool ((n.lf : Int) != (m.lf : Int))) := rfl
                cases hc : alA n m 5
                · simp only [hc, gdV_no, gdV_yes, Bool.false_or, Bool.true_or] at e45 e47 e43 vk
                  refine wpOp_step rfl (fun K hK => ?_)
                  go_simp
                  exact hK _ _ (alI.next 48 hs kw hF (Keep.refl w) (by rw [vk]; simp [updA, e45, e47, e43]))
                · simp only [hc, gdV_no, gdV_yes, Bool.false_or, Bool.true_or] at e45 e47 e43 vk
                  refine wpOp_step rfl (fun K hK => ?_)
                  go_simp
                  exact hK _ _ (alI.next 48 hs kw hF (Keep.refl w) (by rw [vk]; simp [updA, e45, e47, e43]))
              | 49, _ =>
                simp only [List.getElem?_toArray, List.getElem?_cons_succ, List.getElem?_cons_zero, Option.some.injEq] at ho
                subst ho
                have e43 : x 43 = (.bool (alA n m 5)) := hF 43 (hd { on := 43, ground := .data } (by simp) rfl)
                have e48 : x 48 = gdV (alA n m 5) (.bool ((n.lf : Int) != (m.lf : Int))) := hF 48 (hd { on := 48, ground := .data } (by simp) rfl)
                have vk : alV n m wr.heap.size ca1 ca2 cp1 cp2 49 = (.bool (alA n m 6)) := rfl
                have ac : alA n m 6 = (alA n m 5 || ((n.lf : Int) != (m.lf : Int))) := rfl
                cases hc : alA n m 5
                · simp only [hc, gdV_no, gdV_yes, Bool.false_or, Bool.true_or] at e43 e48 vk ac
                  rw [ac] at vk
                  refine wpOp_step rfl (fun K hK => ?_)
                  go_simp
                  exact hK _ _ (alI.next 49 hs kw hF (Keep.refl w) (by rw [vk]; simp [updA, e43, e48]))
                · simp only [hc, gdV_no, gdV_yes, Bool.false_or, Bool.true_or] at e43 e48 vk ac
                  rw [ac] at vk
                  refine wpOp_step rfl (fun K hK => ?_)
                  go_simp
                  exact hK _ _ (alI.next 49 hs kw hF (Keep.refl w) (by rw [vk]; simp [updA, e43, e48]))
              | 50, _ =>
                simp only [List.getElem?_toArray, List.getElem?_cons_succ, List.getElem?_cons_zero, Option.some.injEq] at ho
                subst ho
                have e49 : x 49 = (.bool (alA n m 6)) := hF 49 (hd { on := 49, ground := .data } (by simp) rfl)
                have vk : alV n m wr.heap.size ca1 ca2 cp1 cp2 50 = (.bool (alA n m 6)) := rfl
                refine wpOp_step rfl (fun K hK => ?_)
                go_simp
                exact hK _ _ (alI.next 50 hs kw hF (Keep.refl w) (by rw [vk]; simp [updA, e49]))
              | 51, _ =>
                simp only [List.getElem?_toArray, List.getElem?_cons_succ, List.getElem?_cons_zero, Option.some.injEq] at ho
                subst ho
                have e50 : x 50 = .bool (alA n m 6) := hF 50 (hd { on := 50, ground := .guard } (by simp) rfl)
                have vk : alV n m wr.heap.size ca1 ca2 cp1 cp2 51 = gdV (alA n m 6) (.pointer (some ⟨wr.heap.size, 7, none⟩)) := rfl
                cases hc : alA n m 6
                · simp only [hc, gdV_no, gdV_yes, Bool.false_or, Bool.true_or] at e50 vk
                  refine wpOp_step rfl (fun K hK => ?_)
                  go_simp
                  exact hK _ _ (alI.next 51 hs kw hF (Keep.refl w) (by rw [vk]; simp [updA, e50]))
                · simp only [hc, gdV_no, gdV_yes, Bool.false_or, Bool.true_or] at e50 vk
                  refine wpOp_step rfl (fun K hK => ?_)
                  go_simp
                  exact hK _ _ (alI.next 51 hs kw hF (Keep.refl w) (by rw [vk]; simp [updA, e50]))
              | 52, _ =>
                simp only [List.getElem?_toArray, List.getElem?_cons_succ, List.getElem?_cons_zero, Option.some.injEq] at ho
                subst ho
                have e51 : x 51 = gdV (alA n m 6) (.pointer (some ⟨wr.heap.size, 7, none⟩)) := hF 51 (hd { on := 51, ground := .data } (by simp) rfl)
                have e50 : x 50 = .bool (alA n m 6) := hF 50 (hd { on := 50, ground := .guard } (by simp) rfl)
                have vk : alV n m wr.heap.size ca1 ca2 cp1 cp2 52 = gdV (alA n m 6) (.int .i64 n.rt) := rfl
                cases hc : alA n m 6
                · simp only [hc, gdV_no, gdV_yes, Bool.false_or, Bool.true_or] at e51 e50 vk
                  refine wpOp_step rfl (fun K hK => ?_)
                  have cc := kw.cell y7
                  go_simp
                  exact hK _ _ (alI.next 52 hs kw hF (Keep.refl w) (by rw [vk]; simp [updA, e51, e50]))
                · simp only [hc, gdV_no, gdV_yes, Bool.false_or, Bool.true_or] at e51 e50 vk
                  refine wpOp_step rfl (fun K hK => ?_)
                  go_simp
                  exact hK _ _ (alI.next 52 hs kw hF (Keep.refl w) (by rw [vk]; simp [updA, e51, e50]))
              | 53, _ =>
                simp only [List.getElem?_toArray, List.getElem?_cons_succ, List.getElem?_cons_zero, Option.some.injEq] at ho
                subst ho
                have e50 : x 50 = .bool (alA n m 6) := hF 50 (hd { on := 50, ground := .guard } (by simp) rfl)
                have vk : alV n m wr.heap.size ca1 ca2 cp1 cp2 53 = gdV (alA n m 6) (.pointer (some ⟨wr.heap.size + 1, 7, none⟩)) := rfl
                cases hc : alA n m 6
                · simp only [hc, gdV_no, gdV_yes, Bool.false_or, Bool.true_or] at e50 vk
                  refine wpOp_step rfl (fun K hK => ?_)
                  go_simp
                  exact hK _ _ (alI.next 53 hs kw hF (Keep.refl w) (by rw [vk]; simp [updA, e50]))
                · simp only [hc, gdV_no, gdV_yes, Bool.false_or, Bool.true_or] at e50 vk
                  refine wpOp_step rfl (fun K hK => ?_)
                  go_simp
                  exact hK _ _ (alI.next 53 hs kw hF (Keep.refl w) (by rw [vk]; simp [updA, e50]))
              | 54, _ =>
                simp only [List.getElem?_toArray, List.getElem?_cons_succ, List.getElem?_cons_zero, Option.some.injEq] at ho
                subst ho
                have e53 : x 53 = gdV (alA n m 6) (.pointer (some ⟨wr.heap.size + 1, 7, none⟩)) := hF 53 (hd { on := 53, ground := .data } (by simp) rfl)
                have e50 : x 50 = .bool (alA n m 6) := hF 50 (hd { on := 50, ground := .guard } (by simp) rfl)
                have vk : alV n m wr.heap.size ca1 ca2 cp1 cp2 54 = gdV (alA n m 6) (.int .i64 m.rt) := rfl
                cases hc : alA n m 6
                · simp only [hc, gdV_no, gdV_yes, Bool.false_or, Bool.true_or] at e53 e50 vk
                  refine wpOp_step rfl (fun K hK => ?_)
                  have cc := kw.cell z7
                  go_simp
                  exact hK _ _ (alI.next 54 hs kw hF (Keep.refl w) (by rw [vk]; simp [updA, e53, e50]))
                · simp only [hc, gdV_no, gdV_yes, Bool.false_or, Bool.true_or] at e53 e50 vk
                  refine wpOp_step rfl (fun K hK => ?_)
                  go_simp
                  exact hK _ _ (alI.next 54 hs kw hF (Keep.refl w) (by rw [vk]; simp [updA, e53, e50]))
              | 55, _ =>
                simp only [List.getElem?_toArray, List.getElem?_cons_succ, List.getElem?_cons_zero, Option.some.injEq] at ho
                subst ho
                have e52 : x 52 = gdV (alA n m 6) (.int .i64 n.rt) := hF 52 (hd { on := 52, ground := .data } (by simp) rfl)
                have e54 : x 54 = gdV (alA n m 6) (.int .i64 m.rt) := hF 54 (hd { on := 54, ground := .data } (by simp) rfl)
                have e50 : x 50 = .bool (alA n m 6) := hF 50 (hd { on := 50, ground := .guard } (by simp) rfl)
                have vk : alV n m wr.heap.size ca1 ca2 cp1 cp2 55 = gdV (alA n m 6) (.bool ((n.rt : Int) != (m.rt : Int))) := rfl
                cases hc : alA n m 6
                · simp only [hc, gdV_no, gdV_yes, Bool.false_or, Bool.true_or] at e52 e54 e50 vk
                  refine wpOp_step rfl (fun K hK => ?_)
                  go_simp
                  exact hK _ _ (alI.next 55 hs kw hF (Keep.refl w) (by rw [vk]; simp [updA, e52, e54, e50]))
                · simp only [hc, gdV_no, gdV_yes, Bool.false_or, Bool.true_or] at e52 e54 e50 vk
                  refine wpOp_step rfl (fun K hK => ?_)
                  go_simp
                  exact hK _ _ (alI.next 55 hs kw hF (Keep.refl w) (by rw [vk]; simp [updA, e52, e54, e50]))
              | 56, _ =>
                simp only [List.getElem?_toArray, List.getElem?_cons_succ, List.getElem?_cons_zero, Option.some.injEq] at ho
                subst ho
                have e50 : x 50 = (.bool (alA n m 6)) := hF 50 (hd { on := 50, ground := .data } (by simp) rfl)
                have e55 : x 55 = gdV (alA n m 6) (.bool ((n.rt : Int) != (m.rt : Int))) := hF 55 (hd { on := 55, ground := .data } (by simp) rfl)
                have vk : alV n m wr.heap.size ca1 ca2 cp1 cp2 56 = (.bool (alA n m 7)) := rfl
                have ac : alA n m 7 = (alA n m 6 || ((n.rt : Int) != (m.rt : Int))) := rfl
                cases hc : alA n m 6
                · simp only [hc, gdV_no, gdV_yes, Bool.false_or, Bool.true_or] at e50 e55 vk ac
                  rw [ac] at vk
                  refine wpOp_step rfl (fun K hK => ?_)
                  go_simp
                  exact hK _ _ (alI.next 56 hs kw hF (Keep.refl w) (by rw [vk]; simp [updA, e50, e55]))
                · simp only [hc, gdV_no, gdV_yes, Bool.false_or, Bool.true_or] at e50 e55 vk ac
                  rw [ac] at vk
                  refine wpOp_step rfl (fun K hK => ?_)
                  go_simp
                  exact hK _ _ (alI.next 56 hs kw hF (Keep.refl w) (by rw [vk]; simp [updA, e50, e55]))
              | n + 57, hn => exact absurd hn (by show ¬ n + 57 < 57; omega)
            · rintro l A w ⟨hs, x, rfl, kw, hF⟩ hr
              have g0 : l.getD 0 false = true := ready_nil hr (i := 0) rfl hs (by intro e he hb; simp at he)
              have g1 : l.getD 1 false = true := ready_nil hr (i := 1) rfl hs (by intro e he hb; simp at he; subst he; assumption)
              have g2 : l.getD 2 false = true := ready_nil hr (i := 2) rfl hs (by intro e he hb; simp at he)
              have g3 : l.getD 3 false = true := ready_nil hr (i := 3) rfl hs (by intro e he hb; simp at he; subst he; assumption)
              have g4 : l.getD 4 false = true := ready_nil hr (i := 4) rfl hs (by intro e he hb; simp at he; rcases he with rfl | rfl <;> assumption)
              have g5 : l.getD 5 false = true := ready_nil hr (i := 5) rfl hs (by intro e he hb; simp at he; subst he; assumption)
              have g6 : l.getD 6 false = true := ready_nil hr (i := 6) rfl hs (by intro e he hb; simp at he; subst he; assumption)
              have g7 : l.getD 7 false = true := ready_nil hr (i := 7) rfl hs (by intro e he hb; simp at he; rcases he with rfl | rfl <;> assumption)
              have g8 : l.getD 8 false = true := ready_nil hr (i := 8) rfl hs (by intro e he hb; simp at he; subst he; assumption)
              have g9 : l.getD 9 false = true := ready_nil hr (i := 9) rfl hs (by intro e he hb; simp at he; rcases he with rfl | rfl <;> assumption)
              have g10 : l.getD 10 false = true := ready_nil hr (i := 10) rfl hs (by intro e he hb; simp at he; rcases he with rfl | rfl | rfl <;> assumption)
              have g11 : l.getD 11 false = true := ready_nil hr (i := 11) rfl hs (by intro e he hb; simp at he; rcases he with rfl | rfl <;> assumption)
              have g12 : l.getD 12 false = true := ready_nil hr (i := 12) rfl hs (by intro e he hb; simp at he; rcases he with rfl | rfl <;> assumption)
              have g13 : l.getD 13 false = true := ready_nil hr (i := 13) rfl hs (by intro e he hb; simp at he; subst he; assumption)
              have g14 : l.getD 14 false = true := ready_nil hr (i := 14) rfl hs (by intro e he hb; simp at he; rcases he with rfl | rfl <;> assumption)
              have g15 : l.getD 15 false = true := ready_nil hr (i := 15) rfl hs (by intro e he hb; simp at he; subst he; assumption)
              have g16 : l.getD 16 false = true := ready_nil hr (i := 16) rfl hs (by intro e he hb; simp at he; rcases he with rfl | rfl <;> assumption)
              have g17 : l.getD 17 false = true := ready_nil hr (i := 17) rfl hs (by intro e he hb; simp at he; rcases he with rfl | rfl | rfl <;> assumption)
              have g18 : l.getD 18 false = true := ready_nil hr (i := 18) rfl hs (by intro e he hb; simp at he; rcases he with rfl | rfl <;> assumption)
              have g19 : l.getD 19 false = true := ready_nil hr (i := 19) rfl hs (by intro e he hb; simp at he; rcases he with rfl | rfl <;> assumption)
              have g20 : l.getD 20 false = true := ready_nil hr (i := 20) rfl hs (by intro e he hb; simp at he; subst he; assumption)
              have g21 : l.getD 21 false = true := ready_nil hr (i := 21) rfl hs (by intro e he hb; simp at he; rcases he with rfl | rfl <;> assumption)
              have g22 : l.getD 22 false = true := ready_nil hr (i := 22) rfl hs (by intro e he hb; simp at he; rcases he with rfl | rfl | rfl <;> assumption)
              have g23 : l.getD 23 false = true := ready_nil hr (i := 23) rfl hs (by intro e he hb; simp at he; subst he; assumption)
              have g24 : l.getD 24 false = true := ready_nil hr (i := 24) rfl hs (by intro e he hb; simp at he; rcases he with rfl | rfl <;> assumption)
              have g25 : l.getD 25 false = true := ready_nil hr (i := 25) rfl hs (by intro e he hb; simp at he; rcases he with rfl | rfl | rfl <;> assumption)
              have g26 : l.getD 26 false = true := ready_nil hr (i := 26) rfl hs (by intro e he hb; simp at he; rcases he with rfl | rfl | rfl <;> assumption)
              have g27 : l.getD 27 false = true := ready_nil hr (i := 27) rfl hs (by intro e he hb; simp at he; rcases he with rfl | rfl <;> assumption)
              have g28 : l.getD 28 false = true := ready_nil hr (i := 28) rfl hs (by intro e he hb; simp at he; rcases he with rfl | rfl <;> assumption)
              have g29 : l.getD 29 false = true := ready_nil hr (i := 29) rfl hs (by intro e he hb; simp at he; subst he; assumption)
              have g30 : l.getD 30 false = true := ready_nil hr (i := 30) rfl hs (by intro e he hb; simp at he; rcases he with rfl | rfl <;> assumption)
              have g31 : l.getD 31 false = true := ready_nil hr (i := 31) rfl hs (by intro e he hb; simp at he; subst he; assumption)
              have g32 : l.getD 32 false = true := ready_nil hr (i := 32) rfl hs (by intro e he hb; simp at he; rcases he with rfl | rfl <;> assumption)
              have g33 : l.getD 33 false = true := ready_nil hr (i := 33) rfl hs (by intro e he hb; simp at he; rcases he with rfl | rfl | rfl | rfl <;> assumption)
              have g34 : l.getD 34 false = true := ready_nil hr (i := 34) rfl hs (by intro e he hb; simp at he; rcases he with rfl | rfl <;> assumption)
              have g35 : l.getD 35 false = true := ready_nil hr (i := 35) rfl hs (by intro e he hb; simp at he; rcases he with rfl | rfl <;> assumption)
              have g36 : l.getD 36 false = true := ready_nil hr (i := 36) rfl hs (by intro e he hb; simp at he; rcases he with rfl | rfl <;> assumption)
              have g37 : l.getD 37 false = true := ready_nil hr (i := 37) rfl hs (by intro e he hb; simp at he; subst he; assumption)
              have g38 : l.getD 38 false = true := ready_nil hr (i := 38) rfl hs (by intro e he hb; simp at he; rcases he with rfl | rfl <;> assumption)
              have g39 : l.getD 39 false = true := ready_nil hr (i := 39) rfl hs (by intro e he hb; simp at he; subst he; assumption)
              have g40 : l.getD 40 false = true := ready_nil hr (i := 40) rfl hs (by intro e he hb; simp at he; rcases he with rfl | rfl <;> assumption)
              have g41 : l.getD 41 false = true := ready_nil hr (i := 41) rfl hs (by intro e he hb; simp at he; rcases he with rfl | rfl | rfl <;> assumption)
              have g42 : l.getD 42 false = true := ready_nil hr (i := 42) rfl hs (by intro e he hb; simp at he; rcases he with rfl | rfl <;> assumption)
              have g43 : l.getD 43 false = true := ready_nil hr (i := 43) rfl hs (by intro e he hb; simp at he; rcases he with rfl | rfl <;> assumption)
              have g44 : l.getD 44 false = true := ready_nil hr (i := 44) rfl hs (by intro e he hb; simp at he; subst he; assumption)
              have g45 : l.getD 45 false = true := ready_nil hr (i := 45) rfl hs (by intro e he hb; simp at he; rcases he with rfl | rfl <;> assumption)
              have g46 : l.getD 46 false = true := ready_nil hr (i := 46) rfl hs (by intro e he hb; simp at he; subst he; assumption)
              have g47 : l.getD 47 false = true := ready_nil hr (i := 47) rfl hs (by intro e he hb; simp at he; rcases he with rfl | rfl <;> assumption)
              have g48 : l.getD 48 false = true := ready_nil hr (i := 48) rfl hs (by intro e he hb; simp at he; rcases he with rfl | rfl | rfl <;> assumption)
              have g49 : l.getD 49 false = true := ready_nil hr (i := 49) rfl hs (by intro e he hb; simp at he; rcases he with rfl | rfl <;> assumption)
              have g50 : l.getD 50 false = true := ready_nil hr (i := 50) rfl hs (by intro e he hb; simp at he; rcases he with rfl | rfl <;> assumption)
              have g51 : l.getD 51 false = true := ready_nil hr (i := 51) rfl hs (by intro e he hb; simp at he; subst he; assumption)
              have g52 : l.getD 52 false = true := ready_nil hr (i := 52) rfl hs (by intro e he hb; simp at he; rcases he with rfl | rfl <;> assumption)
              have g53 : l.getD 53 false = true := ready_nil hr (i := 53) rfl hs (by intro e he hb; simp at he; subst he; assumption)
              have g54 : l.getD 54 false = true := ready_nil hr (i := 54) rfl hs (by intro e he hb; simp at he; rcases he with rfl | rfl <;> assumption)
              have g55 : l.getD 55 false = true := ready_nil hr (i := 55) rfl hs (by intro e he hb; simp at he; rcases he with rfl | rfl | rfl <;> assumption)
              have g56 : l.getD 56 false = true := ready_nil hr (i := 56) rfl hs (by intro e he hb; simp at he; rcases he with rfl | rfl <;> assumption)
              exact ⟨rfl, x, rfl, kw, hF 56 g56⟩
          · rintro e a' w3 ⟨rfl, x, rfl, k3, h56⟩
            dsimp only
            rw [h56]
            cases hA : alA n m 7
            · have HN : Hid (∀ j, j < k + 1 → L.getD j nd0 = M.getD j nd0) := by
                intro j hj
                by_cases e : j = k
                · subst e; rw [HX.out.1, HX.out.2]; exact alA_eq hA
                · exact hinv.out j (by omega)
              clear h56 hA
              go_simp
              go_wp2_with fail
              go_roundw
              case rel => exact ⟨k + 1, by omega, by go_num, kw.trans (k2.trans k3), HN⟩
              case measure => simp [intOf]; omega
            · have HF : Hid (@decide (oa = oa ∧ L = M) (Classical.propDecidable _) = false) := by
                show _ = _
                rw [decide_eq_false_iff_not]
                intro e
                have hh := HX.out
                rw [e.2] at hh
                have h3 := hh.1.symm.trans hh.2
                subst h3
                rw [alA_self] at hA
                cases hA
              clear h56 hA
              go_simp
              go_wp2_with fail
              go_ret
              exact ⟨ret_bool HF.out.symm, kk.trans k3⟩
        · have hkc : ¬ (k : Int) < (L.length : Int) := by omega
          have HT : Hid (@decide (oa = oa ∧ L = M) (Classical.propDecidable _) = true) := @decide_eq_true _ (Classical.propDecidable _) (And.intro rfl <| nd_list_ext hl.out (fun j hj => hinv.out j (by omega)))
          go_wp2_with fail
          go_ret
          exact ⟨ret_bool HT.out.symm, k1.trans kw⟩
    · have hB : ((L.length : Int) == (M.length : Int)) = false := by rw [beq_eq_false_iff_ne]; omega
      have hB2 : ((L.length : Int) != (M.length : Int)) = true := by simp; omega
      have HF : Hid (@decide (oa = oa ∧ L = M) (Classical.propDecidable _) = false) := by
        show _ = _
        rw [decide_eq_false_iff_not]
        intro e; rw [e.2] at hl; exact hl rfl
      clear hl
      go_enter Try.func62, Try.ntmps62
      go_wp2_with fail
      rw [hw1.out]
      go_ret
      exact ⟨ret_bool HF.out.symm, k1⟩
  · have hB : (oa == ob) = false := by simpa using ho
    have hB2 : (oa != ob) = true := by simpa using ho
    have HF : Hid (@decide (oa = ob ∧ L = M) (Classical.propDecidable _) = false) := by
      show _ = _
      rw [decide_eq_false_iff_not]
      intro e; exact ho e.1
    clear ho
    go_enter Try.func62, Try.ntmps62
    go_wp2_with fail
    rw [hw1.out]
    go_ret
    exact ⟨ret_bool HF.out.symm, k1⟩
end Go.Proofs.Ytaogjiffnebnkaa

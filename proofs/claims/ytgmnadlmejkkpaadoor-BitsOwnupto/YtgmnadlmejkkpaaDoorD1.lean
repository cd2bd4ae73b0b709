import Derived.RangeFuncBox
import Derived.RangeFuncLeaves
import Derived.Shelf.Abstract
import Derived.OwnWalkIn
import Derived.TacticsInMore
import Derived.LoopNIn
import Derived.LoopIn
import Derived.Test.YtgmnadlmejkkpaaDoorC5
set_option linter.unusedVariables false
set_option linter.unusedSimpArgs false
namespace Go.Proofs.YtgmnadlmejkkpaaDoor
open Go.RowKit Go.Shelf
attribute [local go_sem] Oper.semAt_some
/-- A place and a word. -/
abbrev PW := { x : Nat × Nat // x.1 < 17592186044416 ∧ x.2 < 18446744073709551616 }
abbrev encs (x : PW) : Array Value := #[Value.int .i64 (x.1.1 : Int), Value.int .u64 (x.1.2 : Int)]
/-- The word of place p. -/
def pw (l : List Nat) (hl : l.length ≤ 17592186044416) (hw : W64 l) (p : Nat) : PW := ⟨(min p (l.length - 1), l.getD p 0), by simp only; omega, W64_getD hw p⟩
/-- What has come when all places from m on have. -/
def dn (l : List Nat) (hl : l.length ≤ 17592186044416) (hw : W64 l) (m : Nat) : List PW := (List.range (l.length - m)).map fun j => pw l hl hw (l.length - 1 - j)
theorem dn_step (l : List Nat) (hl : l.length ≤ 17592186044416) (hw : W64 l) (p : Nat) (hp : p < l.length) : dn l hl hw p = dn l hl hw (p + 1) ++ [pw l hl hw p] := by
  unfold dn
  rw [show l.length - p = (l.length - (p + 1)) + 1 by omega, List.range_succ, List.map_append, List.map_singleton, show l.length - 1 - (l.length - (p + 1)) = p by omega]
theorem dn_length (l : List Nat) (hl : l.length ≤ 17592186044416) (hw : W64 l) (m : Nat) : (dn l hl hw m).length = l.length - m := by simp [dn]
/-- The words can be read, from blocks below n0. -/
def Rb (n0 : Nat) (w : World) (a : Option Addr) (l : List Nat) : Prop :=
  ∀ j, j < l.length → ∃ b o, a = some ⟨b, o, none⟩ ∧ b < n0 ∧ w.cell? ⟨b, o + j, none⟩ = some (.int .u64 (l.getD j 0 : Nat))
theorem Rb.below {n0 : Nat} {w w' : World} {a : Option Addr} {l : List Nat} (h : Rb n0 w a l) (k : Below n0 w w') : Rb n0 w' a l := by
  intro j hj
  obtain ⟨b, o, e, hb, hc⟩ := h j hj
  exact ⟨b, o, e, hb, (k.cell (p := ⟨b, o + j, none⟩) hb).trans hc⟩
theorem Rd.rb {w : World} {a : Option Addr} {l : List Nat} (h : Rd w a l) : Rb w.heap.size w a l := by
  intro j hj
  obtain ⟨b, o, e, hc⟩ := h j hj
  exact ⟨b, o, e, World.block_lt_of_cell? w _ hc, hc⟩
set_option maxRecDepth 100000 in
set_option maxHeartbeats 2000000 in
theorem back1_in (n : Nat) (hn : 1 ≤ n) (y Bs n0 : Nat) (a : Option Addr) (cap : Nat) (l : List Nat) (hl : l.length ≤ 17592186044416) (hw : W64 l) (J Jx : List PW → World → Prop)
    (hY : ∀ pre x W, J pre W → pre.length < l.length → YieldAt Fence.wide (n - 1) Tryd.prog y (encs x) W fun e W' =>
      (e = .returned (.bool true) ∧ J (pre ++ [x]) W' ∧ Below n0 W W') ∨ (e = .returned (.bool false) ∧ Jx (pre ++ [x]) W'))
    (W : World) (hBs0 : Bs < n0) (hBs : W.cell? ⟨Bs, 0, none⟩ = some (.slice a l.length cap)) (hc : Rb n0 W a l) (h0 : J [] W) :
    CallsIn Fence.wide n Tryd.prog 71 #[.func (.yield y) #[] #[], .pointer (some ⟨Bs, 0, none⟩)] W fun e W' => (∃ v, e = .returned v) ∧
      (J (dn l hl hw 0) W' ∨ ∃ m, m < l.length ∧ Jx (dn l hl hw m) W') := by
  refine callsIn_of_wp Tryd.func71 rfl trivial ?_ rfl
  simp only [Tryd.ntmps71, List.size_toArray, List.length_cons, List.length_nil, Nat.reduceAdd, Nat.reduceSub, Array.replicate_succ, Array.replicate_zero, List.push_toArray, List.append_toArray, List.nil_append, List.cons_append]
  gi_wp2
  gi_loopw [3] (fun i wr => ∃ m : Nat, m ≤ l.length ∧ i = .int .i64 ((m : Int) - 1) ∧ J (dn l hl hw m) wr ∧ Below n0 W wr)
    (fun i _ => ((intOf i) + 1).toNat)
  case atStart => exact ⟨l.length, Nat.le_refl _, rfl, by unfold dn; rw [Nat.sub_self]; exact h0, Below.refl _ _⟩
  case round =>
    obtain ⟨m, hm, rfl, hJs, hnx⟩ := hrel
    have hB1 := (hnx.cell (p := ⟨Bs, 0, none⟩) hBs0).trans hBs
    cases m with
    | zero =>
      have h1 : (((0 : Nat) : Int) - 1) = -1 := rfl
      rw [h1]
      gi_wp2
      go_end0
      exact ⟨⟨_, rfl⟩, .inl hJs⟩
    | succ p =>
      have h1 : (((p + 1 : Nat) : Int) - 1) = (p : Int) := by omega
      rw [h1]
      obtain ⟨b, o, rfl, hb, hcx⟩ := hc.below hnx p (by omega)
      obtain ⟨fn, tmps, assign, body, hy, hR⟩ := hY _ (pw l hl hw p) wr hJs (by rw [dn_length]; omega)
      have hmin : min p (l.length - 1) = p := by omega
      unfold encs pw at hy
      simp only [hmin] at hy
      generalize l.getD p 0 = x at hcx hy
      gi_wp2
      refine hR.mono ?_
      rintro e W3 (⟨rfl, hJ3, hk3⟩ | ⟨rfl, hJx3⟩)
      · gi_wp2
        go_roundw
        case rel => exact ⟨p, by omega, rfl, by rw [dn_step l hl hw p (by omega)]; exact hJ3, hnx.trans hk3⟩
        case measure => simp [intOf]
      · gi_wp2
        refine bodyPost_ret (results_none rfl _ _ _) rfl ?_
        exact ⟨⟨_, rfl⟩, .inr ⟨p, by omega, by rw [dn_step l hl hw p (by omega)]; exact hJx3⟩⟩
end Go.Proofs.YtgmnadlmejkkpaaDoor

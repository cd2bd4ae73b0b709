import Derived.Test.YtaogjiffnebnkaaProg
import Derived.Test.YtaogjiffnebnkaaP4
import Derived.Test.YtaogjiffnebnkaaJYMM
import Derived.Test.YtaogjiffnebnkaaKYT5
import Derived.Test.YtaogjiffnebnkaaKYT6
import Derived.Test.YtaogjiffnebnkaaKYU1
import Derived.Test.YtaogjiffnebnkaaKYMM
import Derived.Test.YtaogjiffnebnkaaKM1
import Derived.Test.YtaogjiffnebnkaaKM2
import Derived.Test.YtaogjiffnebnkaaKM3
import Derived.WalkKit
import Derived.WalkSpells
import Derived.WalkLawsBesides
import Derived.Deep.Draws
import Derived.Deep.QuietTactic
import Derived.BigQuiet
import Derived.Laws.Externs
import Derived.Laws.CopyOwn
import Derived.Test.YtaogjiffnebnkaaJYT3
import Derived.RangeFuncBox
import Derived.RangeFuncLeaves
import Derived.RangeFuncCalls
import Derived.RangeFuncRecord
import Derived.Below
import Derived.Shelf.Abstract
import Derived.OwnWalkIn
import Derived.TacticsInMore
import Derived.LoopNIn
import Derived.LoopIn
import Derived.Sort.LoopGhostIn
import Derived.Deep.RegionLaw
import Derived.Deep.RegionWith
import Derived.Deep.RegionHeld3
import Derived.Stop.RegionWithIn
import Derived.Deep.LoopGhost
import Derived.Deep.CutRange
import Derived.Deep.CutBlock
import Derived.Shelf.Strconv.Itoa0
import Derived.Laws.BytesArg
import Derived.LaidEqlPtr
set_option linter.unusedVariables false
set_option linter.unusedSimpArgs false
namespace Go.Proofs.Ytaogjiffnebnkaa.Mk
open Go.RowKit
/-- Where a number goes, once it is told whether it goes left. -/
def sdS (x ms : Nat) (left : Bool) : Nat := if nanB x then ms else if left then 1 else 2
set_option maxRecDepth 100000 in
theorem side_any (x ms : Nat) (left : Bool) (w : World) :
    Calls Try.prog 150 #[.float .f64 x, .int .u8 (ms : Nat), .bool left] w fun e w' => e = .returned (.int .u8 (sdS x ms left : Nat)) ∧ w' = w := by
  have N := IsNaN_any x w
  cases hx : nanB x
  · have H1 : Hid (sdS x ms true = 1) := by show _ = _; unfold sdS; rw [hx]; rfl
    have H2 : Hid (sdS x ms false = 2) := by show _ = _; unfold sdS; rw [hx]; rfl
    rw [hx] at N
    clear hx
    cases left
    all_goals
      go_enter Try.func150, Try.ntmps150
      go_wp2_with fail
      refine N.mono ?_
      rintro e w1 ⟨rfl, rfl⟩
      go_wp2_with fail
      go_ret
      exact ⟨ret_int (by first | (rw [H1.out]; rfl) | (rw [H2.out]; rfl)), rfl⟩
  · have H1 : Hid (sdS x ms left = ms) := by show _ = _; unfold sdS; rw [hx]; rfl
    rw [hx] at N
    clear hx
    go_enter Try.func150, Try.ntmps150
    go_wp2_with fail
    refine N.mono ?_
    rintro e w1 ⟨rfl, rfl⟩
    go_wp2_with fail
    go_ret
    exact ⟨ret_int (by rw [H1.out]), rfl⟩
set_option maxRecDepth 100000 in
theorem askerOf_number (w : World) :
    Calls Try.prog 83 #[.int .u8 2] w fun e w' => e = .returned (.iface 145 (.agg #[])) ∧ w' = w := by
  go_enter Try.func83, Try.ntmps83
  go_wp2_with fail
  go_ret
  exact ⟨rfl, rfl⟩
set_option maxRecDepth 100000 in
theorem askerOf_among (w : World) :
    Calls Try.prog 83 #[.int .u8 3] w fun e w' => e = .returned (.iface 146 (.agg #[])) ∧ w' = w := by
  go_enter Try.func83, Try.ntmps83
  go_wp2_with fail
  go_ret
  exact ⟨rfl, rfl⟩
set_option maxRecDepth 100000 in
theorem askerOf_leaf (k : Nat) (w : World) (h2 : k ≠ 2) (h3 : k ≠ 3) :
    Calls Try.prog 83 #[.int .u8 (k : Nat)] w fun e w' => e = .returned (.iface 147 (.agg #[])) ∧ w' = w := by
  have e2 : ((k : Int) == 2) = false := by simp; omega
  have e3 : ((k : Int) == 3) = false := by simp; omega
  go_enter Try.func83, Try.ntmps83
  go_wp2_with fail
  go_ret
  exact ⟨rfl, rfl⟩
/-- At most, as the language compares. -/
def leB (x y : Nat) : Bool := FloatKind.f64.format.order x y == some .lt || FloatKind.f64.format.order x y == some .eq
set_option maxRecDepth 100000 in
theorem number_goes (n : Nd) (ca : Option Addr) (cap x : Nat) (w : World) :
    Calls Try.prog 149 #[.agg #[], n.v ca cap, .float .f64 x] w fun e w' => e = .returned (.int .u8 (sdS x n.ms (leB x n.th) : Nat)) ∧ Keep w w' := by
  have S := fun l wx => side_any x n.ms l wx
  unfold Nd.v
  go_enter Try.func149, Try.ntmps149
  go_wp2_with fail
  refine (S _ _).mono ?_
  rintro e w1 ⟨rfl, rfl⟩
  go_wp2_with fail
  go_ret
  exact ⟨rfl, ((Keep.refl w).alloc _).alloc _⟩
set_option maxRecDepth 100000 in
theorem leaf_goes (n : Nd) (ca : Option Addr) (cap x : Nat) (w : World) :
    Calls Try.prog 152 #[.agg #[], n.v ca cap, .float .f64 x] w fun e w' => e = .returned (.int .u8 0) ∧ Keep w w' := by
  unfold Nd.v
  go_enter Try.func152, Try.ntmps152
  go_wp2_with fail
  go_ret
  exact ⟨rfl, by first | exact Keep.refl w | exact (Keep.refl w).alloc _ | exact ((Keep.refl w).alloc _).alloc _⟩
/-- One of the categories. -/
def inB (l : List Int) (x : Nat) : Bool := l.any fun c => FloatKind.f64.format.order (floatOfInt FloatKind.f64 c) x == some .eq
def amS (n : Nd) (x : Nat) : Nat := if inB n.cs x then 1 else sdS x n.ms false
theorem inB_yes {l : List Int} {x k : Nat} (hk : k < l.length) (h : (FloatKind.f64.format.order (floatOfInt FloatKind.f64 l[k]) x == some .eq) = true) : inB l x = true :=
  List.any_eq_true.2 ⟨l[k], List.getElem_mem hk, h⟩
theorem inB_no {l : List Int} {x : Nat} (h : ∀ i (hi : i < l.length), (FloatKind.f64.format.order (floatOfInt FloatKind.f64 l[i]) x == some .eq) = false) : inB l x = false := by
  unfold inB
  rw [List.any_eq_false]
  intro c hc
  obtain ⟨i, hi, rfl⟩ := List.getElem_of_mem hc
  rw [h i hi]; simp
set_option maxRecDepth 100000 in
theorem among_goes (n : Nd) (ca : Option Addr) (cap x : Nat) (w : World) (hr : RdI w ca n.cs) (hl : n.cs.length ≤ 17592186044416) (hc : n.cs.length ≤ cap) :
    Calls Try.prog 151 #[.agg #[], n.v ca cap, .float .f64 x] w fun e w' => e = .returned (.int .u8 (amS n x : Nat)) ∧ Keep w w' := by
  have S := fun l wx => side_any x n.ms l wx
  have HD : Hid (amS n x = if inB n.cs x then 1 else sdS x n.ms false) := rfl
  unfold Nd.v
  go_enter Try.func151, Try.ntmps151
  go_wp2_with fail
  have k0 : Keep w ((w.alloc (Obj.cells #[] 146)).alloc (Obj.cells #[Value.int IntKind.u8 n.kd, Value.int IntKind.i64 n.vl, Value.int IntKind.i64 n.ft, Value.float FloatKind.f64 n.th, Value.slice ca n.cs.length cap, Value.int IntKind.u8 n.ms, Value.int IntKind.i64 n.lf, Value.int IntKind.i64 n.rt] 83)) := ((Keep.refl w).alloc _).alloc _
  have hr' := hr.keep k0
  go_loop [12] (fun i => ∃ k : Nat, k ≤ n.cs.length ∧ i = .int .i64 k ∧ Hid (∀ i (hi : i < n.cs.length), i < k → (FloatKind.f64.format.order (floatOfInt FloatKind.f64 n.cs[i]) x == some .eq) = false)) (fun i => n.cs.length - (intOf i).toNat)
  case atStart => exact ⟨0, by omega, rfl, by intro i hi h; omega⟩
  case round =>
    obtain ⟨k, hk, rfl, hinv⟩ := hrel
    by_cases hkl : k < n.cs.length
    · obtain ⟨b, o, rfl, hc⟩ := hr' k hkl
      cases he : (FloatKind.f64.format.order (floatOfInt FloatKind.f64 n.cs[k]) x == some .eq)
      · have hn : Hid (∀ i (hi : i < n.cs.length), i < k + 1 → (FloatKind.f64.format.order (floatOfInt FloatKind.f64 n.cs[i]) x == some .eq) = false) := by
          intro i hi h
          rcases Nat.lt_or_ge i k with h1 | h1
          · exact hinv.out i hi h1
          · obtain rfl : i = k := by omega
            exact he
        go_wp2_with fail
        go_round
        case rel => exact ⟨k + 1, by omega, by go_num, hn⟩
        case measure => simp [intOf]; omega
      · have hy := inB_yes hkl he
        have HR : Hid (amS n x = 1) := by show _ = _; rw [HD.out, hy]; rfl
        clear hy
        go_wp2_with fail
        go_ret
        exact ⟨ret_int (by rw [HR.out]; rfl), k0⟩
    · have hy : inB n.cs x = false := inB_no fun i hi => hinv.out i hi (by omega)
      have HR : Hid (amS n x = sdS x n.ms false) := by show _ = _; rw [HD.out, hy]; rfl
      clear hy
      go_wp2_with fail
      refine (S _ _).mono ?_
      rintro e w1 ⟨rfl, rfl⟩
      go_wp2_with fail
      go_ret
      exact ⟨ret_int (by rw [HR.out]), k0⟩
/-- The side that a number goes to at a node. -/
def gsS (n : Nd) (x : Nat) : Nat := if n.kd = 2 then sdS x n.ms (leB x n.th) else if n.kd = 3 then amS n x else 0
set_option maxRecDepth 100000 in
theorem Goes_leaf (n : Nd) (ca : Option Addr) (cap x : Nat) (w : World) (h2 : n.kd ≠ 2) (h3 : n.kd ≠ 3) :
    Calls Try.prog 67 #[n.v ca cap, .float .f64 x] w fun e w' => e = .returned (.int .u8 (0 : Nat)) ∧ Keep w w' := by
  have k0 : Keep w (w.alloc (Obj.cells #[Value.int IntKind.u8 n.kd, Value.int IntKind.i64 n.vl, Value.int IntKind.i64 n.ft, Value.float FloatKind.f64 n.th, Value.slice ca n.cs.length cap, Value.int IntKind.u8 n.ms, Value.int IntKind.i64 n.lf, Value.int IntKind.i64 n.rt] 83)) := (Keep.refl w).alloc _
  have hm : ∀ w : World, (method 300 147 (.agg #[]) "thicket/trees.goes").run Try.prog w = .ok (152, .agg #[]) w := fun _ => by kernel_rfl
  have A := fun wx => askerOf_leaf n.kd wx h2 h3
  have L := fun wx (k : Keep w wx) => leaf_goes n ca cap x wx
  unfold Nd.v at L ⊢
  go_enter Try.func67, Try.ntmps67
  go_wp2_with fail
  go_region_with (first
    | (go_at_call 83; refine (A _).mono ?_; rintro e wA ⟨rfl, rfl⟩)
    | (go_at_call 152; refine (L _ (k0.drew)).mono ?_; rintro e wB ⟨rfl, kB⟩))
  all_goals
    go_simp
    go_wp2_with fail
    go_ret
    exact ⟨rfl, k0.drew.trans kB⟩
set_option maxRecDepth 100000 in
theorem Goes_number (n : Nd) (ca : Option Addr) (cap x : Nat) (w : World) (h2 : n.kd = 2) :
    Calls Try.prog 67 #[n.v ca cap, .float .f64 x] w fun e w' => e = .returned (.int .u8 (sdS x n.ms (leB x n.th) : Nat)) ∧ Keep w w' := by
  have k0 : Keep w (w.alloc (Obj.cells #[Value.int IntKind.u8 n.kd, Value.int IntKind.i64 n.vl, Value.int IntKind.i64 n.ft, Value.float FloatKind.f64 n.th, Value.slice ca n.cs.length cap, Value.int IntKind.u8 n.ms, Value.int IntKind.i64 n.lf, Value.int IntKind.i64 n.rt] 83)) := (Keep.refl w).alloc _
  have hm : ∀ w : World, (method 300 145 (.agg #[]) "thicket/trees.goes").run Try.prog w = .ok (149, .agg #[]) w := fun _ => by kernel_rfl
  have A : ∀ wx : World, Calls Try.prog 83 #[.int .u8 (n.kd : Nat)] wx (fun e w' => e = .returned (.iface 145 (.agg #[])) ∧ w' = wx) := fun wx => by rw [h2]; exact askerOf_number wx
  clear h2
  have L := fun wx (k : Keep w wx) => number_goes n ca cap x wx
  unfold Nd.v at L ⊢
  go_enter Try.func67, Try.ntmps67
  go_wp2_with fail
  go_region_with (first
    | (go_at_call 83; refine (A _).mono ?_; rintro e wA ⟨rfl, rfl⟩)
    | (go_at_call 149; refine (L _ (k0.drew)).mono ?_; rintro e wB ⟨rfl, kB⟩))
  all_goals
    go_simp
    go_wp2_with fail
    go_ret
    exact ⟨rfl, k0.drew.trans kB⟩
set_option maxRecDepth 100000 in
theorem Goes_among (n : Nd) (ca : Option Addr) (cap x : Nat) (w : World) (h3 : n.kd = 3) (hr : RdI w ca n.cs) (hl : n.cs.length ≤ 17592186044416) (hc : n.cs.length ≤ cap) :
    Calls Try.prog 67 #[n.v ca cap, .float .f64 x] w fun e w' => e = .returned (.int .u8 (amS n x : Nat)) ∧ Keep w w' := by
  have k0 : Keep w (w.alloc (Obj.cells #[Value.int IntKind.u8 n.kd, Value.int IntKind.i64 n.vl, Value.int IntKind.i64 n.ft, Value.float FloatKind.f64 n.th, Value.slice ca n.cs.length cap, Value.int IntKind.u8 n.ms, Value.int IntKind.i64 n.lf, Value.int IntKind.i64 n.rt] 83)) := (Keep.refl w).alloc _
  have hm : ∀ w : World, (method 300 146 (.agg #[]) "thicket/trees.goes").run Try.prog w = .ok (151, .agg #[]) w := fun _ => by kernel_rfl
  have A : ∀ wx : World, Calls Try.prog 83 #[.int .u8 (n.kd : Nat)] wx (fun e w' => e = .returned (.iface 146 (.agg #[])) ∧ w' = wx) := fun wx => by rw [h3]; exact askerOf_among wx
  clear h3
  have L := fun wx (k : Keep w wx) => among_goes n ca cap x wx (hr.keep k) hl hc
  unfold Nd.v at L ⊢
  go_enter Try.func67, Try.ntmps67
  go_wp2_with fail
  go_region_with (first
    | (go_at_call 83; refine (A _).mono ?_; rintro e wA ⟨rfl, rfl⟩)
    | (go_at_call 151; refine (L _ (k0.drew)).mono ?_; rintro e wB ⟨rfl, kB⟩))
  all_goals
    go_simp
    go_wp2_with fail
    go_ret
    exact ⟨rfl, k0.drew.trans kB⟩
theorem Goes_any (n : Nd) (ca : Option Addr) (cap x : Nat) (w : World) (hr : RdI w ca n.cs) (hl : n.cs.length ≤ 17592186044416) (hc : n.cs.length ≤ cap) :
    Calls Try.prog 67 #[n.v ca cap, .float .f64 x] w fun e w' => e = .returned (.int .u8 (gsS n x : Nat)) ∧ Keep w w' := by
  by_cases h2 : n.kd = 2
  · have h := Goes_number n ca cap x w h2
    rw [show gsS n x = sdS x n.ms (leB x n.th) by unfold gsS; rw [if_pos h2]]; exact h
  · by_cases h3 : n.kd = 3
    · have h := Goes_among n ca cap x w h3 hr hl hc
      rw [show gsS n x = amS n x by unfold gsS; rw [if_neg h2, if_pos h3]]; exact h
    · have h := Goes_leaf n ca cap x w h2 h3
      rw [show gsS n x = 0 by unfold gsS; rw [if_neg h2, if_neg h3]]; exact h
end Go.Proofs.Ytaogjiffnebnkaa.Mk
set_option linter.unusedVariables false
set_option linter.unusedSimpArgs false
namespace Go.Proofs.Ytaogjiffnebnkaa.Mk
open Go.RowKit Go.Shelf
theorem lackB_ft {L : List Nd} {m k : Nat} (h : lackB L m = false) (hk : k < L.length) (hi : (shp L).K k = true) : (L.getD k nd0).ft < (m : Int) := by
  simp only [shp, decide_eq_true_eq] at hi
  rcases Int.lt_or_le (L.getD k nd0).ft m with q | q
  · exact q
  · rw [lackB_yes hk ⟨hi, q⟩] at h; cases h
end Go.Proofs.Ytaogjiffnebnkaa.Mk
set_option linter.unusedVariables false
set_option linter.unusedSimpArgs false
namespace Go.Proofs.Ytaogjiffnebnkaa.Mk
open Go.RowKit Go.Shelf
attribute [local go_sem] run_store_float
def lvG (L : List Nd) (m : Nat) : Int := if lvE L ≠ 0 then lvE L else if lackB L m then 72 else 0
set_option maxRecDepth 100000 in
set_option maxHeartbeats 1000000 in
theorem leavesFor_any (a ax : Option Addr) (cap m cx : Nat) (out : Int) (L : List Nd) (hLn : L.length ≤ 2199023255552) (hm : m ≤ 17592186044416) (w : World) (hrd : RdN w a L) :
    Calls Try.prog 45 #[.agg #[.int .i64 out, .slice a L.length cap], .slice ax m cx] w fun e w' => ∃ v, e = .returned (.tuple #[v, .int .i64 (lvG L m)]) ∧ (lvG L m = 0 → OwnI w' v (lvs L) ∧ ∀ b, v.ownBlock = some b → w.heap.size ≤ b) ∧ (lvG L m ≠ 0 → v = .slice none 0 0) ∧ Keep w w' := by
  have k0 : Keep w (w.alloc (Obj.cells #[Value.int IntKind.i64 out, Value.slice a L.length cap] 54)) := (Keep.refl w).alloc _
  have tb : (w.alloc (Obj.cells #[Value.int IntKind.i64 out, Value.slice a L.length cap] 54)).heap[w.heap.size]? = some (Obj.cells #[Value.int IntKind.i64 out, Value.slice a L.length cap] 54 (0, 0)) := heap_alloc_new w _
  have hC := leavesOf_any a cap out L hLn _ (hrd.keep k0)
  go_enter Try.func45, Try.ntmps45
  go_wp2_with fail
  generalize w.alloc (Obj.cells #[Value.int IntKind.i64 out, Value.slice a L.length cap] 54) = w1 at *
  refine hC.mono ?_
  rintro e w2 ⟨v, rfl, h1, h2, k2⟩
  have k02 := k0.trans k2
  by_cases hE : lvE L = 0
  · have c1 : (lvE L != 0) = false := by rw [bne_eq_false_iff_eq]; exact hE
    obtain ⟨-, hR, -, b, hb, hlv, hn⟩ := lvE_ok hE
    have t2 := (k2.block _ (Array.getElem?_eq_some_iff.1 tb).1).trans tb
    have x1 := cell_of_row _ _ 1 _ 54 (0, 0) t2
    simp only [List.getElem?_toArray, List.getElem?_cons_zero, List.getElem?_cons_succ] at x1
    obtain ⟨h1, h1b⟩ := h1 hE
    obtain ⟨av, cv, rfl, -⟩ := h1.shape
    have h1b' : ∀ b, (Value.slice av (lvs L).length cv).ownBlock = some b → w.heap.size ≤ b := fun b hb => Nat.le_trans k0.le (h1b b hb)
    replace hE : Hid _ := hE
    replace hlv : Hid _ := hlv
    replace h1 : Hid _ := h1
    replace h1b' : Hid _ := h1b'
    clear hC h2 t2 h1b
    go_wp2_with fail
    clear x1
    go_loopw [21] (fun iv wr => Keep w2 wr ∧ ∃ (i : Nat), i ≤ L.length ∧ iv = .int .i64 i ∧ Hid (∀ k, k < i → ¬ (((L.getD k nd0).kd = 2 ∨ (L.getD k nd0).kd = 3) ∧ (m : Int) ≤ (L.getD k nd0).ft))) (fun iv _ => L.length - (intOf iv).toNat)
    case atStart => exact ⟨Keep.refl _, 0, by omega, rfl, fun k hk => by omega⟩
    case round =>
      obtain ⟨kw, i, hi, rfl, hq⟩ := hrel
      by_cases hil : i < L.length
      · have hic : (i : Int) < (L.length : Int) := by omega
        obtain ⟨bb, o, ca, cpn, rfl, hN⟩ := hrd.keep (k02.trans kw) i hil
        have hrt := hR.2 i hil
        obtain ⟨N, hNd⟩ : ∃ N, L.getD i nd0 = N := ⟨_, rfl⟩
        rw [hNd] at hN hrt
        have c0 := hN.c0
        have c1' := hN.c1
        have c2 := hN.c2
        have c3 := hN.c3
        have c4 := hN.c4
        have c5 := hN.c5
        have c6 := hN.c6
        have c7 := hN.c7
        have hkx : Hid (N.kd ≠ 1 ↔ (N.kd = 2 ∨ N.kd = 3)) := by
          show _ ↔ _
          unfold rightB at hrt
          by_cases e1 : N.kd = 1
          · simp [e1]
          · by_cases e2 : N.kd = 2
            · simp [e2]
            · by_cases e3 : N.kd = 3
              · simp [e3]
              · rw [if_neg e1, if_neg e2, if_neg e3] at hrt; cases hrt
        have kx : Keep w2 (wr.alloc (Obj.cells #[Value.int IntKind.u8 N.kd, Value.int IntKind.i64 N.vl, Value.int IntKind.i64 N.ft, Value.float FloatKind.f64 N.th, Value.slice ca N.cs.length cpn, Value.int IntKind.u8 N.ms, Value.int IntKind.i64 N.lf, Value.int IntKind.i64 N.rt] 83)) := kw.alloc _
        have hib : i ≤ 2199023255552 := by omega
        replace hNd : Hid _ := hNd
        replace kx : Hid _ := kx
        replace kw : Hid _ := kw
        clear hN hrt
        by_cases e1 : N.kd = 1
        · have cE : ((N.kd : Int) != 1) = false := by rw [bne_eq_false_iff_eq]; omega
          have hq2 : Hid (∀ k, k < i + 1 → ¬ (((L.getD k nd0).kd = 2 ∨ (L.getD k nd0).kd = 3) ∧ (m : Int) ≤ (L.getD k nd0).ft)) := by
            show ∀ k, _
            intro k hk
            by_cases e : k = i
            · subst e; rw [hNd.out]; exact fun h => hkx.out.2 h.1 e1
            · exact hq.out k (by omega)
          replace e1 : Hid _ := e1
          go_wp2_with fail
          exact ⟨⟨kx.out, i + 1, by omega, by go_num, hq2⟩, by simp [intOf]; omega⟩
        · have cE : ((N.kd : Int) != 1) = true := by rw [bne_iff_ne]; omega
          by_cases e2 : (m : Int) ≤ N.ft
          · have cF : decide (N.ft ≥ (m : Int)) = true := decide_eq_true e2
            have cG : decide ((m : Int) ≤ N.ft) = true := decide_eq_true e2
            have hlk : lackB L m = true := lackB_yes hil (by rw [hNd.out]; exact ⟨hkx.out.1 e1, e2⟩)
            have HE : Hid (lvG L m = 72) := by show _ = _; unfold lvG; rw [if_neg (by simpa using hE.out), hlk]; rfl
            replace e1 : Hid _ := e1
            replace e2 : Hid _ := e2
            replace hlk : Hid _ := hlk
            have kf := k02.trans kx.out
            go_wp2_with fail
            go_ret2
            exact ⟨.slice none 0 0, by rw [HE.out]; rfl, fun h => (by rw [HE.out] at h; cases h), fun _ => rfl, kf⟩
          · have cF : decide (N.ft ≥ (m : Int)) = false := decide_eq_false e2
            have cG : decide ((m : Int) ≤ N.ft) = false := decide_eq_false e2
            have hq2 : Hid (∀ k, k < i + 1 → ¬ (((L.getD k nd0).kd = 2 ∨ (L.getD k nd0).kd = 3) ∧ (m : Int) ≤ (L.getD k nd0).ft)) := by
              show ∀ k, _
              intro k hk
              by_cases e : k = i
              · subst e; rw [hNd.out]; exact fun h => e2 h.2
              · exact hq.out k (by omega)
            replace e1 : Hid _ := e1
            replace e2 : Hid _ := e2
            go_wp2_with fail
            exact ⟨⟨kx.out, i + 1, by omega, by go_num, hq2⟩, by simp [intOf]; omega⟩
      · have hic : ¬ (i : Int) < (L.length : Int) := by omega
        obtain rfl : i = L.length := by omega
        have hlk : lackB L m = false := by
          cases h : lackB L m
          · rfl
          · unfold lackB at h
            rw [List.any_eq_true] at h
            obtain ⟨x, hx, h2⟩ := h
            obtain ⟨k, hk, rfl⟩ := List.getElem_of_mem hx
            have := hq.out k hk
            rw [List.getD_eq_getElem?_getD, List.getElem?_eq_getElem hk] at this
            exact absurd (of_decide_eq_true h2) this
        have HE : Hid (lvG L m = 0) := by show _ = _; unfold lvG; rw [if_neg (by simpa using hE.out), hlk]; rfl
        have kf := k02.trans kw
        have h1f : OwnI wr (.slice av (lvs L).length cv) (lvs L) := OwnI.same h1.out (fun b hb => by obtain ⟨cur, hc⟩ := OwnI.block h1.out hb; exact kw.block b (Array.getElem?_eq_some_iff.1 hc).1)
        replace hlk : Hid _ := hlk
        replace kw : Hid _ := kw
        replace h1f : Hid _ := h1f
        go_wp2_with fail
        go_ret2
        exact ⟨.slice av (lvs L).length cv, by rw [HE.out]; rfl, fun _ => ⟨h1f.out, h1b'.out⟩, fun h => absurd HE.out h, kf⟩
  · have c1 : (lvE L != 0) = true := by rw [bne_iff_ne]; exact hE
    have h2 := h2 hE
    subst h2
    have HE : Hid (lvG L m = lvE L) := by show _ = _; unfold lvG; rw [if_pos hE]
    replace hE : Hid _ := hE
    clear hC h1
    go_wp2_with fail
    go_ret2
    exact ⟨.slice none 0 0, by rw [HE.out]; rfl, fun h => absurd (HE.out.symm.trans h) hE.out, fun _ => rfl, k02⟩
end Go.Proofs.Ytaogjiffnebnkaa.Mk
set_option linter.unusedVariables false
set_option linter.unusedSimpArgs false
namespace Go.Proofs.Ytaogjiffnebnkaa.Mk
open Go.RowKit Go.Shelf
attribute [local go_sem] run_store_float
/-- Does a vector go to the right at a node? -/
def rgtB (L : List Nd) (xs : List Nat) (i : Nat) : Bool := decide (gsS (L.getD i nd0) (xs.getD (L.getD i nd0).ft.toNat 0) = 2)
/-- The marks of the false nodes. -/
def flm (L : List Nd) (xs : List Nat) (l : List (Nat × Nat × Nat)) : List (Nat × Nat × Nat) := l.filter fun x => rgtB L xs x.1
theorem take_nextM (l : List (Nat × Nat × Nat)) (i : Nat) (h : i < l.length) : l.take (i + 1) = l.take i ++ [l.getD i m0] := by
  rw [List.take_add_one]
  simp [List.getD, h]
set_option maxRecDepth 100000 in
set_option maxHeartbeats 1000000 in
theorem falseOf_any (a ax : Option Addr) (cap cx : Nat) (out : Int) (L : List Nd) (xs : List Nat) (hLn : L.length ≤ 2199023255552) (hxl : xs.length ≤ 17592186044416) (hR : Rgt L) {b : BT} (hT : Tr (shp L) L.length) (hb : Bt (shp L) b 0) (hn : b.nl ≤ 4096) (hlk : lackB L xs.length = false) (w : World) (hrd : RdN w a L) (hxd : RdF w ax xs) :
    Calls Try.prog 46 #[.agg #[.int .i64 out, .slice a L.length cap], .slice ax xs.length cx] w fun e w' => ∃ v, e = .returned v ∧ OwnM w.heap.size w' v (flm L xs (b.mks 0)) ∧ Keep w w' := by
  have k0 : Keep w (w.alloc (Obj.cells #[Value.int IntKind.i64 out, Value.slice a L.length cap] 54)) := (Keep.refl w).alloc _
  have tb : (w.alloc (Obj.cells #[Value.int IntKind.i64 out, Value.slice a L.length cap] 54)).heap[w.heap.size]? = some (Obj.cells #[Value.int IntKind.i64 out, Value.slice a L.length cap] 54 (0, 0)) := heap_alloc_new w _
  have hC := marksOf_any a cap out L hLn hR hb hn _ (hrd.keep k0)
  go_enter Try.func46, Try.ntmps46
  go_wp2_with fail
  generalize w.alloc (Obj.cells #[Value.int IntKind.i64 out, Value.slice a L.length cap] 54) = w1 at *
  refine hC.mono ?_
  rintro e w2 ⟨v, rfl, hO, k2⟩
  have k02 := k0.trans k2
  have t2 := (k2.block _ (Array.getElem?_eq_some_iff.1 tb).1).trans tb
  obtain ⟨a2, c2, rfl, -, hr2⟩ := hO.shape
  have hml := b.mks_len 0
  have hmb : (b.mks 0).length ≤ 4096 := by omega
  have hI0 : OwnM w2.heap.size w2 (.slice none 0 0) (flm L xs ((b.mks 0).take 0)) := OwnM.nil _ _
  replace hI0 : Hid _ := hI0
  replace t2 : Hid _ := t2
  clear hC hO tb
  go_wp2_with fail
  go_loopw [5, 12] (fun v iv wr => ∃ (j : Nat), j ≤ (b.mks 0).length ∧ iv = .int .i64 j ∧ OwnM w2.heap.size wr v (flm L xs ((b.mks 0).take j)) ∧ Keep w2 wr) (fun _ iv _ => (b.mks 0).length - (intOf iv).toNat)
  case atStart => exact ⟨0, by omega, rfl, hI0.out, Keep.refl _⟩
  case round =>
    clear hI0
    obtain ⟨j, hj, rfl, hI, kw⟩ := hrel
    by_cases hjl : j < (b.mks 0).length
    · have hjc : (j : Int) < ((b.mks 0).length : Int) := by omega
      obtain ⟨b1, o1, hae, d0, d1, d2⟩ := (hr2.keep kw) j hjl
      have hmem : (b.mks 0).getD j m0 ∈ b.mks 0 := by
        rw [List.getD_eq_getElem?_getD, List.getElem?_eq_getElem hjl]
        exact List.getElem_mem hjl
      obtain ⟨hfr, hKi, -⟩ := hb.fr_mks 0 _ hmem
      have htn := take_nextM (b.mks 0) j hjl
      obtain ⟨m, hm⟩ : ∃ m, (b.mks 0).getD j m0 = m := ⟨_, rfl⟩
      rw [hm] at d0 d1 d2 hfr hKi htn
      obtain ⟨i, mf, mt⟩ := m
      simp only at d0 d1 d2 hfr hKi
      subst hae
      have hi : i < L.length := ord_lt hT.wi i (by rw [ord_bt hT hb, ← b.fr_pre 0]; exact List.mem_map.2 ⟨_, hfr, rfl⟩)
      have hft0 := hR.ft hi hKi
      have hft1 := lackB_ft hlk hi hKi
      obtain ⟨bb, o, ca, cpn, rfl, hN⟩ := hrd.keep (k02.trans kw) i hi
      obtain ⟨N, hNd⟩ : ∃ N, L.getD i nd0 = N := ⟨_, rfl⟩
      rw [hNd] at hN hft0 hft1
      obtain ⟨ft, hft⟩ : ∃ ft : Nat, N.ft = ft := ⟨N.ft.toNat, by omega⟩
      obtain ⟨bx, ox, rfl, hxc⟩ := (hxd.keep (k02.trans kw)) ft (by omega)
      obtain ⟨x, hx⟩ : ∃ x, xs.getD ft 0 = x := ⟨_, rfl⟩
      rw [hx] at hxc
      have hxe : xs.getD N.ft.toNat 0 = x := by rw [hft, Int.toNat_natCast, hx]
      have hrg : rgtB L xs i = decide (gsS N x = 2) := by unfold rgtB; rw [hNd]; simp only [hxe]
      have c0 := hN.c0
      have c1 := hN.c1
      have c2' := hN.c2
      have c3 := hN.c3
      have c4 := hN.c4
      have c5 := hN.c5
      have c6 := hN.c6
      have c7 := hN.c7
      rw [hft] at c2'
      have kA : Keep wr (wr.alloc (Obj.cells #[.int .i64 (i : Nat), .int .i64 (mf : Nat), .int .i64 (mt : Nat)] 59)) := (Keep.refl wr).alloc _
      have kB : Keep wr ((wr.alloc (Obj.cells #[.int .i64 (i : Nat), .int .i64 (mf : Nat), .int .i64 (mt : Nat)] 59)).alloc (Obj.cells #[Value.int IntKind.u8 N.kd, Value.int IntKind.i64 N.vl, Value.int IntKind.i64 (ft : Nat), Value.float FloatKind.f64 N.th, Value.slice ca N.cs.length cpn, Value.int IntKind.u8 N.ms, Value.int IntKind.i64 N.lf, Value.int IntKind.i64 N.rt] 83)) := kA.alloc _
      have tm : (wr.alloc (Obj.cells #[.int .i64 (i : Nat), .int .i64 (mf : Nat), .int .i64 (mt : Nat)] 59)).heap[wr.heap.size]? = some (Obj.cells #[.int .i64 (i : Nat), .int .i64 (mf : Nat), .int .i64 (mt : Nat)] 59 (0, 0)) := heap_alloc_new wr _
      have tn : ((wr.alloc (Obj.cells #[.int .i64 (i : Nat), .int .i64 (mf : Nat), .int .i64 (mt : Nat)] 59)).alloc (Obj.cells #[Value.int IntKind.u8 N.kd, Value.int IntKind.i64 N.vl, Value.int IntKind.i64 (ft : Nat), Value.float FloatKind.f64 N.th, Value.slice ca N.cs.length cpn, Value.int IntKind.u8 N.ms, Value.int IntKind.i64 N.lf, Value.int IntKind.i64 N.rt] 83)).heap[wr.heap.size + 1]? = some (Obj.cells #[Value.int IntKind.u8 N.kd, Value.int IntKind.i64 N.vl, Value.int IntKind.i64 (ft : Nat), Value.float FloatKind.f64 N.th, Value.slice ca N.cs.length cpn, Value.int IntKind.u8 N.ms, Value.int IntKind.i64 N.lf, Value.int IntKind.i64 N.rt] 83 (0, 0)) := by
        have := heap_alloc_new (wr.alloc (Obj.cells #[.int .i64 (i : Nat), .int .i64 (mf : Nat), .int .i64 (mt : Nat)] 59)) (Obj.cells #[Value.int IntKind.u8 N.kd, Value.int IntKind.i64 N.vl, Value.int IntKind.i64 (ft : Nat), Value.float FloatKind.f64 N.th, Value.slice ca N.cs.length cpn, Value.int IntKind.u8 N.ms, Value.int IntKind.i64 N.lf, Value.int IntKind.i64 N.rt] 83)
        rw [World.size_alloc] at this
        exact this
      have tm2 := (((Keep.refl (wr.alloc (Obj.cells #[.int .i64 (i : Nat), .int .i64 (mf : Nat), .int .i64 (mt : Nat)] 59))).alloc (Obj.cells #[Value.int IntKind.u8 N.kd, Value.int IntKind.i64 N.vl, Value.int IntKind.i64 (ft : Nat), Value.float FloatKind.f64 N.th, Value.slice ca N.cs.length cpn, Value.int IntKind.u8 N.ms, Value.int IntKind.i64 N.lf, Value.int IntKind.i64 N.rt] 83)).block _ (Array.getElem?_eq_some_iff.1 tm).1).trans tm
      have g0 := kA.cell c0
      have g1 := kA.cell c1
      have g2 := kA.cell c2'
      have g3 := kA.cell c3
      have g4 := kA.cell c4
      have g5 := kA.cell c5
      have g6 := kA.cell c6
      have g7 := kA.cell c7
      have x1 := cell_of_row _ _ 1 _ 54 (0, 0) ((kw.block _ (Array.getElem?_eq_some_iff.1 t2.out).1).trans t2.out)
      have y0 := cell_of_row _ _ 0 _ 59 (0, 0) tm
      have z0 := cell_of_row _ _ 0 _ 83 (0, 0) tn
      have z1 := cell_of_row _ _ 1 _ 83 (0, 0) tn
      have z2 := cell_of_row _ _ 2 _ 83 (0, 0) tn
      have z3 := cell_of_row _ _ 3 _ 83 (0, 0) tn
      have z4 := cell_of_row _ _ 4 _ 83 (0, 0) tn
      have z5 := cell_of_row _ _ 5 _ 83 (0, 0) tn
      have z6 := cell_of_row _ _ 6 _ 83 (0, 0) tn
      have z7 := cell_of_row _ _ 7 _ 83 (0, 0) tn
      simp only [List.getElem?_toArray, List.getElem?_cons_zero, List.getElem?_cons_succ] at x1 y0 z0 z1 z2 z3 z4 z5 z6 z7
      have x1a := kA.cell x1
      have hxb := kB.cell hxc
      have hG := Goes_any N ca cpn x ((wr.alloc (Obj.cells #[.int .i64 (i : Nat), .int .i64 (mf : Nat), .int .i64 (mt : Nat)] 59)).alloc (Obj.cells #[Value.int IntKind.u8 N.kd, Value.int IntKind.i64 N.vl, Value.int IntKind.i64 (ft : Nat), Value.float FloatKind.f64 N.th, Value.slice ca N.cs.length cpn, Value.int IntKind.u8 N.ms, Value.int IntKind.i64 N.lf, Value.int IntKind.i64 N.rt] 83)).drew ((hN.rd.keep kB).keep (Keep.refl _).drew) hN.sz hN.cp
      unfold Nd.v at hG
      rw [hft] at hG
      have hiL : (i : Int) < (L.length : Int) := by omega
      have hib : i ≤ 2199023255552 := by omega
      have hfx : (ft : Int) < (xs.length : Int) := by omega
      have hfb : ft ≤ 17592186044416 := by omega
      have hjb : j ≤ 4096 := by omega
      obtain ⟨va, vc, hve, hvc, -⟩ := hI.shape
      subst hve
      replace hNd : Hid _ := hNd
      replace hft : Hid _ := hft
      replace hxe : Hid _ := hxe
      replace hx : Hid _ := hx
      replace hm : Hid _ := hm
      replace htn : Hid _ := htn
      replace hI : Hid _ := hI
      have hw2le := kw.le
      replace kw : Hid _ := kw
      replace kB : Hid _ := kB
      replace tm2 : Hid _ := tm2
      replace hrg : Hid _ := hrg
      replace hfr : Hid _ := hfr
      clear hN hmem tm tn kA
      go_wp2_with fail
      go_region_with (go_at_call 67; refine hG.mono ?_; rintro e w6 ⟨rfl, k6⟩)
      all_goals
        have k6w : Keep wr w6 := Keep.trans (Keep.drew kB.out) k6
        have t6 := (k6.block _ (Array.getElem?_eq_some_iff.1 tm2.out).1).trans tm2.out
        have u0 := cell_of_row _ _ 0 _ 59 (0, 0) t6
        have u1' := cell_of_row _ _ 1 _ 59 (0, 0) t6
        have u2' := cell_of_row _ _ 2 _ 59 (0, 0) t6
        simp only [List.getElem?_toArray, List.getElem?_cons_zero, List.getElem?_cons_succ] at u0 u1' u2'
        clear hG c0 c1 c2' c3 c4 c5 c6 c7 g0 g1 g2 g3 g4 g5 g6 g7 x1 x1a y0 z0 z1 z2 z3 z4 z5 z6 z7 hxb d0 d1 d2
        by_cases h2 : gsS N x = 2
        · have cR : (((gsS N x : Nat) : Int) == 2) = true := by rw [h2]; rfl
          have hlf : flm L xs ((b.mks 0).take (j + 1)) = flm L xs ((b.mks 0).take j) ++ [(i, mf, mt)] := by
            rw [htn.out]
            unfold flm
            rw [List.filter_append]
            simp [hrg.out, h2]
          have hO6 : OwnM _ _ _ _ := own_keep hI.out (k6w.alloc (Obj.cells #[.int .i64 (i : Nat), .int .i64 (mf : Nat), .int .i64 (mt : Nat)] 59))
          have hB6 : w2.heap.size ≤ (w6.alloc (Obj.cells #[.int .i64 (i : Nat), .int .i64 (mf : Nat), .int .i64 (mt : Nat)] 59)).heap.size := Nat.le_trans hw2le (Keep.le (Keep.alloc k6w _))
          have hL6 : (flm L xs ((b.mks 0).take j)).length + 1 ≤ 5864062014805 := by
            have h3 : (flm L xs ((b.mks 0).take j)).length ≤ ((b.mks 0).take j).length := List.length_filter_le _ _
            rw [List.length_take] at h3
            omega
          replace h2 : Hid _ := h2
          replace hlf : Hid _ := hlf
          replace hO6 : Hid _ := hO6
          replace hB6 : Hid _ := hB6
          replace hL6 : Hid _ := hL6
          replace t6 : Hid _ := t6
          go_simp
          go_wp2_with (at_builtin; refine wpList_appM w2.heap.size _ rfl _ _ rfl (flm L xs ((b.mks 0).take j)) (i, mf, mt) (.slice va (flm L xs ((b.mks 0).take j)).length vc) ?_ ?_ ?_ ⟨w6.heap.size, 0, none⟩ 1 ?_ ?_ ?_ ?_; rfl; exact hO6.out; exact hB6.out; rfl; exact newsM w6 i mf mt; exact hL6.out; intro v7 w7 hO7 g7; have k7 : Keep w2 w7 := Below.grown (Keep.alloc (Keep.trans kw.out k6w) _) g7 hB6.out (fun b hb => (own_block hI.out hb).1); rw [← hlf.out] at hO7; obtain ⟨a7, c7, rfl, -, -⟩ := hO7.shape; replace hO7 : Hid _ := hO7; replace k7 : Hid _ := k7)
          go_wp2_with fail
          exact ⟨⟨j + 1, by omega, by go_num, hO7.out, k7.out⟩, by simp [intOf]; omega⟩
        · have cR : (((gsS N x : Nat) : Int) == 2) = false := by rw [beq_eq_false_iff_ne]; omega
          have hlf : flm L xs ((b.mks 0).take (j + 1)) = flm L xs ((b.mks 0).take j) := by
            rw [htn.out]
            unfold flm
            rw [List.filter_append]
            simp [hrg.out, h2]
          have hO6 : OwnM _ _ _ _ := own_keep hI.out k6w
          rw [← hlf] at hO6
          replace h2 : Hid _ := h2
          replace hO6 : Hid _ := hO6
          replace t6 : Hid _ := t6
          rw [← hlf]
          replace hlf : Hid _ := hlf
          go_simp
          go_wp2_with fail
          exact ⟨⟨j + 1, by omega, by go_num, hO6.out, Keep.trans kw.out k6w⟩, by simp [intOf]; omega⟩
    · have hjc : ¬ (j : Int) < ((b.mks 0).length : Int) := by omega
      obtain rfl : j = (b.mks 0).length := by omega
      rw [List.take_length] at hI
      obtain ⟨va, vc, rfl, -, -⟩ := hI.shape
      replace hI : Hid _ := hI
      replace kw : Hid _ := kw
      go_wp2_with fail
      go_ret
      exact ⟨_, rfl, own_mono hI.out k02.le, k02.trans kw.out⟩
end Go.Proofs.Ytaogjiffnebnkaa.Mk
set_option linter.unusedVariables false
set_option linter.unusedSimpArgs false
namespace Go.Proofs.Ytaogjiffnebnkaa.Mk
open Go.RowKit Go.Shelf
theorem lvG_ok {L : List Nd} {m : Nat} (h : lvG L m = 0) : lvE L = 0 ∧ lackB L m = false := by
  unfold lvG at h
  by_cases hE : lvE L = 0
  · refine ⟨hE, ?_⟩
    rw [if_neg (by simpa using hE)] at h
    cases hk : lackB L m
    · rfl
    · rw [hk] at h; simp at h
  · rw [if_pos hE] at h; exact absurd h hE
end Go.Proofs.Ytaogjiffnebnkaa.Mk
set_option linter.unusedVariables false
set_option linter.unusedSimpArgs false
namespace Go.Proofs.Ytaogjiffnebnkaa.Mk
open Go.RowKit Go.Shelf
attribute [local go_sem] run_store_float
set_option maxRecDepth 100000 in
set_option maxHeartbeats 1000000 in
theorem False_any (a ax : Option Addr) (cap cx : Nat) (out : Int) (L : List Nd) (xs : List Nat) (hLn : L.length ≤ 2199023255552) (hxl : xs.length ≤ 17592186044416) (w : World) (hrd : RdN w a L) (hxd : RdF w ax xs) :
    Calls Try.prog 26 #[.agg #[.int .i64 out, .slice a L.length cap], .slice ax xs.length cx] w fun e w' => ∃ v l, e = .returned (.tuple #[v, .int .i64 (lvG L xs.length)]) ∧ OwnM w.heap.size w' v l ∧ (lvG L xs.length ≠ 0 → l = []) ∧ (∀ b, lvG L xs.length = 0 → Bt (shp L) b 0 → l = flm L xs (b.mks 0)) ∧ Keep w w' := by
  have k0 : Keep w (w.alloc (Obj.cells #[Value.int IntKind.i64 out, Value.slice a L.length cap] 54)) := (Keep.refl w).alloc _
  have tb : (w.alloc (Obj.cells #[Value.int IntKind.i64 out, Value.slice a L.length cap] 54)).heap[w.heap.size]? = some (Obj.cells #[Value.int IntKind.i64 out, Value.slice a L.length cap] 54 (0, 0)) := heap_alloc_new w _
  have hC := leavesFor_any a ax cap xs.length cx out L hLn hxl _ (hrd.keep k0)
  go_enter Try.func26, Try.ntmps26
  go_wp2_with fail
  generalize w.alloc (Obj.cells #[Value.int IntKind.i64 out, Value.slice a L.length cap] 54) = w1 at *
  refine hC.mono ?_
  rintro e w2 ⟨v, rfl, h1, h2, k2⟩
  have k02 := k0.trans k2
  by_cases hF : lvG L xs.length = 0
  · have c1 : (lvG L xs.length != 0) = false := by rw [bne_eq_false_iff_eq]; exact hF
    obtain ⟨hE, hlk⟩ := lvG_ok hF
    obtain ⟨-, hR, hT, b, hb, hlv, hn⟩ := lvE_ok hE
    have t2 := (k2.block _ (Array.getElem?_eq_some_iff.1 tb).1).trans tb
    have x0 := cell_of_row _ _ 0 _ 54 (0, 0) t2
    have x1 := cell_of_row _ _ 1 _ 54 (0, 0) t2
    simp only [List.getElem?_toArray, List.getElem?_cons_zero, List.getElem?_cons_succ] at x0 x1
    obtain ⟨h1, -⟩ := h1 hF
    obtain ⟨av, cv, rfl, -⟩ := h1.shape
    have hM := falseOf_any a ax cap cx out L xs hLn hxl hR hT hb hn hlk w2 (hrd.keep k02) (hxd.keep k02)
    replace hF : Hid _ := hF
    replace hE : Hid _ := hE
    replace hlk : Hid _ := hlk
    replace hlv : Hid _ := hlv
    clear hC h1 h2 t2
    go_wp2_with fail
    refine hM.mono ?_
    rintro e w3 ⟨v3, rfl, hO, k3⟩
    obtain ⟨a3, c3, rfl, -, -⟩ := hO.shape
    replace hO : Hid _ := hO
    clear hM
    go_wp2_with fail
    go_ret2
    exact ⟨.slice a3 (flm L xs (b.mks 0)).length c3, flm L xs (b.mks 0), by rw [hF.out]; rfl, own_mono hO.out k02.le, fun h => absurd hF.out h, fun b2 _ h2 => by rw [← hb.one h2], k02.trans k3⟩
  · have c1 : (lvG L xs.length != 0) = true := by rw [bne_iff_ne]; exact hF
    have h2 := h2 hF
    subst h2
    replace hF : Hid _ := hF
    clear hC h1
    go_wp2_with fail
    go_ret2
    exact ⟨.slice none 0 0, [], rfl, OwnM.nil _ _, fun _ => rfl, fun b h _ => absurd h hF.out, k02⟩
end Go.Proofs.Ytaogjiffnebnkaa.Mk

import Derived.Test.YtbchinfmdioijaaT2
set_option linter.unusedVariables false
set_option linter.unusedSimpArgs false
namespace Go.Proofs.Ytbchinfmdioijaa
open Go.RowKit
/-- Where a number goes, once it is told whether it goes left. -/
def sdS (x ms : Nat) (left : Bool) : Nat := if nanB x then ms else if left then 1 else 2
set_option maxRecDepth 100000 in
theorem side_any (x ms : Nat) (left : Bool) (w : World) :
    Calls Try.prog 104 #[.float .f64 x, .int .u8 (ms : Nat), .bool left] w fun e w' => e = .returned (.int .u8 (sdS x ms left : Nat)) ∧ w' = w := by
  have N := IsNaN_any x w
  cases hx : nanB x
  · have H1 : Hid (sdS x ms true = 1) := by show _ = _; unfold sdS; rw [hx]; rfl
    have H2 : Hid (sdS x ms false = 2) := by show _ = _; unfold sdS; rw [hx]; rfl
    rw [hx] at N
    clear hx
    cases left
    all_goals
      go_enter Try.func104, Try.ntmps104
      go_wp2_with fail
      refine N.mono ?_
      rintro e w1 ⟨rfl, rfl⟩
      go_wp2_with fail
      go_ret
      exact ⟨ret_int (by first | (rw [H1.out]; rfl) | (rw [H2.out]; rfl)), rfl⟩
  · have H1 : Hid (sdS x ms left = ms) := by show _ = _; unfold sdS; rw [hx]; rfl
    rw [hx] at N
    clear hx
    go_enter Try.func104, Try.ntmps104
    go_wp2_with fail
    refine N.mono ?_
    rintro e w1 ⟨rfl, rfl⟩
    go_wp2_with fail
    go_ret
    exact ⟨ret_int (by rw [H1.out]), rfl⟩
set_option maxRecDepth 100000 in
theorem askerOf_number (w : World) :
    Calls Try.prog 54 #[.int .u8 2] w fun e w' => e = .returned (.iface 105 (.agg #[])) ∧ w' = w := by
  go_enter Try.func54, Try.ntmps54
  go_wp2_with fail
  go_ret
  exact ⟨rfl, rfl⟩
set_option maxRecDepth 100000 in
theorem askerOf_among (w : World) :
    Calls Try.prog 54 #[.int .u8 3] w fun e w' => e = .returned (.iface 106 (.agg #[])) ∧ w' = w := by
  go_enter Try.func54, Try.ntmps54
  go_wp2_with fail
  go_ret
  exact ⟨rfl, rfl⟩
set_option maxRecDepth 100000 in
theorem askerOf_leaf (k : Nat) (w : World) (h2 : k ≠ 2) (h3 : k ≠ 3) :
    Calls Try.prog 54 #[.int .u8 (k : Nat)] w fun e w' => e = .returned (.iface 107 (.agg #[])) ∧ w' = w := by
  have e2 : ((k : Int) == 2) = false := by simp; omega
  have e3 : ((k : Int) == 3) = false := by simp; omega
  go_enter Try.func54, Try.ntmps54
  go_wp2_with fail
  go_ret
  exact ⟨rfl, rfl⟩
/-- At most, as the language compares. -/
def leB (x y : Nat) : Bool := FloatKind.f64.format.order x y == some .lt || FloatKind.f64.format.order x y == some .eq
set_option maxRecDepth 100000 in
theorem number_goes (n : Nd) (ca : Option Addr) (cap x : Nat) (w : World) :
    Calls Try.prog 103 #[.agg #[], n.v ca cap, .float .f64 x] w fun e w' => e = .returned (.int .u8 (sdS x n.ms (leB x n.th) : Nat)) ∧ Keep w w' := by
  have S := fun l wx => side_any x n.ms l wx
  unfold Nd.v
  go_enter Try.func103, Try.ntmps103
  go_wp2_with fail
  refine (S _ _).mono ?_
  rintro e w1 ⟨rfl, rfl⟩
  go_wp2_with fail
  go_ret
  exact ⟨rfl, ((Keep.refl w).alloc _).alloc _⟩
set_option maxRecDepth 100000 in
theorem leaf_goes (n : Nd) (ca : Option Addr) (cap x : Nat) (w : World) :
    Calls Try.prog 106 #[.agg #[], n.v ca cap, .float .f64 x] w fun e w' => e = .returned (.int .u8 0) ∧ Keep w w' := by
  unfold Nd.v
  go_enter Try.func106, Try.ntmps106
  go_wp2_with fail
  go_ret
  exact ⟨rfl, by first | exact Keep.refl w | exact (Keep.refl w).alloc _ | exact ((Keep.refl w).alloc _).alloc _⟩
/-- Equal, as the language compares, is so both ways. -/
theorem dat_symm (d e : Ieee.Datum) : (d.order e == some .eq) = (e.order d == some .eq) := by
  rw [Bool.eq_iff_iff]
  cases d <;> cases e <;> simp only [Ieee.Datum.order, beq_iff_eq, Option.some.injEq, reduceCtorEq]
  all_goals first
    | (split <;> simp)
    | (rename_i s m i t n j; rw [Int.min_comm j i, Std.LawfulEqCmp.compare_eq_iff_eq, Std.LawfulEqCmp.compare_eq_iff_eq]; exact eq_comm)
    | (rw [Std.LawfulEqCmp.compare_eq_iff_eq, Std.LawfulEqCmp.compare_eq_iff_eq]; exact eq_comm)
theorem eq_symm (a b : Nat) : (FloatKind.f64.format.order a b == some .eq) = (FloatKind.f64.format.order b a == some .eq) := dat_symm _ _
theorem dat_nan (d e : Ieee.Datum) (h : (d.order d == some .eq) = false) : (e.order d == some .eq) = false := by
  cases d <;> cases e <;> simp_all [Ieee.Datum.order]
theorem eq_nan (a x : Nat) (h : nanB x = true) : (FloatKind.f64.format.order a x == some .eq) = false := by
  unfold nanB at h
  rw [Bool.not_eq_true'] at h
  exact dat_nan _ _ h
/-- One of the categories. -/
def inB (l : List Int) (x : Nat) : Bool := l.any fun c => FloatKind.f64.format.order (floatOfInt FloatKind.f64 c) x == some .eq
def amS (n : Nd) (x : Nat) : Nat := if inB n.cs x then 1 else sdS x n.ms false
theorem inB_yes {l : List Int} {x k : Nat} (hk : k < l.length) (h : (FloatKind.f64.format.order (floatOfInt FloatKind.f64 l[k]) x == some .eq) = true) : inB l x = true :=
  List.any_eq_true.2 ⟨l[k], List.getElem_mem hk, h⟩
theorem inB_no {l : List Int} {x : Nat} (h : ∀ i (hi : i < l.length), (FloatKind.f64.format.order (floatOfInt FloatKind.f64 l[i]) x == some .eq) = false) : inB l x = false := by
  unfold inB
  rw [List.any_eq_false]
  intro c hc
  obtain ⟨i, hi, rfl⟩ := List.getElem_of_mem hc
  rw [h i hi]; simp
set_option maxRecDepth 100000 in
theorem among_goes (n : Nd) (ca : Option Addr) (cap x : Nat) (w : World) (hr : RdI w ca n.cs) (hl : n.cs.length ≤ 17592186044416) (hc : n.cs.length ≤ cap) :
    Calls Try.prog 105 #[.agg #[], n.v ca cap, .float .f64 x] w fun e w' => e = .returned (.int .u8 (amS n x : Nat)) ∧ Keep w w' := by
  have S := fun l wx => side_any x n.ms l wx
  have HD : Hid (amS n x = if inB n.cs x then 1 else sdS x n.ms false) := rfl
  unfold Nd.v
  go_enter Try.func105, Try.ntmps105
  go_wp2_with fail
  have k0 : Keep w ((w.alloc (Obj.cells #[] 106)).alloc (Obj.cells #[Value.int IntKind.u8 n.kd, Value.int IntKind.i64 n.vl, Value.int IntKind.i64 n.ft, Value.float FloatKind.f64 n.th, Value.slice ca n.cs.length cap, Value.int IntKind.u8 n.ms, Value.int IntKind.i64 n.lf, Value.int IntKind.i64 n.rt] 40)) := ((Keep.refl w).alloc _).alloc _
  have hr' := hr.keep k0
  go_loop [12] (fun i => ∃ k : Nat, k ≤ n.cs.length ∧ i = .int .i64 k ∧ Hid (∀ i (hi : i < n.cs.length), i < k → (FloatKind.f64.format.order (floatOfInt FloatKind.f64 n.cs[i]) x == some .eq) = false)) (fun i => n.cs.length - (intOf i).toNat)
  case atStart => exact ⟨0, by omega, rfl, by intro i hi h; omega⟩
  case round =>
    obtain ⟨k, hk, rfl, hinv⟩ := hrel
    by_cases hkl : k < n.cs.length
    · obtain ⟨b, o, rfl, hc⟩ := hr' k hkl
      cases he : (FloatKind.f64.format.order (floatOfInt FloatKind.f64 n.cs[k]) x == some .eq)
      · have hn : Hid (∀ i (hi : i < n.cs.length), i < k + 1 → (FloatKind.f64.format.order (floatOfInt FloatKind.f64 n.cs[i]) x == some .eq) = false) := by
          intro i hi h
          rcases Nat.lt_or_ge i k with h1 | h1
          · exact hinv.out i hi h1
          · obtain rfl : i = k := by omega
            exact he
        go_wp2_with fail
        go_round
        case rel => exact ⟨k + 1, by omega, by go_num, hn⟩
        case measure => simp [intOf]; omega
      · have hy := inB_yes hkl he
        have HR : Hid (amS n x = 1) := by show _ = _; rw [HD.out, hy]; rfl
        clear hy
        go_wp2_with fail
        go_ret
        exact ⟨ret_int (by rw [HR.out]; rfl), k0⟩
    · have hy : inB n.cs x = false := inB_no fun i hi => hinv.out i hi (by omega)
      have HR : Hid (amS n x = sdS x n.ms false) := by show _ = _; rw [HD.out, hy]; rfl
      clear hy
      go_wp2_with fail
      refine (S _ _).mono ?_
      rintro e w1 ⟨rfl, rfl⟩
      go_wp2_with fail
      go_ret
      exact ⟨ret_int (by rw [HR.out]), k0⟩
/-- The side that a number goes to at a node. -/
def gsS (n : Nd) (x : Nat) : Nat := if n.kd = 2 then sdS x n.ms (leB x n.th) else if n.kd = 3 then amS n x else 0
set_option maxRecDepth 100000 in
theorem Goes_leaf (n : Nd) (ca : Option Addr) (cap x : Nat) (w : World) (h2 : n.kd ≠ 2) (h3 : n.kd ≠ 3) :
    Calls Try.prog 22 #[n.v ca cap, .float .f64 x] w fun e w' => e = .returned (.int .u8 (0 : Nat)) ∧ Keep w w' := by
  have k0 : Keep w (w.alloc (Obj.cells #[Value.int IntKind.u8 n.kd, Value.int IntKind.i64 n.vl, Value.int IntKind.i64 n.ft, Value.float FloatKind.f64 n.th, Value.slice ca n.cs.length cap, Value.int IntKind.u8 n.ms, Value.int IntKind.i64 n.lf, Value.int IntKind.i64 n.rt] 40)) := (Keep.refl w).alloc _
  have hm : ∀ w : World, (method 232 107 (.agg #[]) "thicket/trees.goes").run Try.prog w = .ok (106, .agg #[]) w := fun _ => by kernel_rfl
  have A := fun wx => askerOf_leaf n.kd wx h2 h3
  have L := fun wx (k : Keep w wx) => leaf_goes n ca cap x wx
  unfold Nd.v at L ⊢
  go_enter Try.func22, Try.ntmps22
  go_wp2_with fail
  go_region_with (first
    | (go_at_call 54; refine (A _).mono ?_; rintro e wA ⟨rfl, rfl⟩)
    | (go_at_call 106; refine (L _ (k0.drew)).mono ?_; rintro e wB ⟨rfl, kB⟩))
  all_goals
    go_simp
    go_wp2_with fail
    go_ret
    exact ⟨rfl, k0.drew.trans kB⟩
set_option maxRecDepth 100000 in
theorem Goes_number (n : Nd) (ca : Option Addr) (cap x : Nat) (w : World) (h2 : n.kd = 2) :
    Calls Try.prog 22 #[n.v ca cap, .float .f64 x] w fun e w' => e = .returned (.int .u8 (sdS x n.ms (leB x n.th) : Nat)) ∧ Keep w w' := by
  have k0 : Keep w (w.alloc (Obj.cells #[Value.int IntKind.u8 n.kd, Value.int IntKind.i64 n.vl, Value.int IntKind.i64 n.ft, Value.float FloatKind.f64 n.th, Value.slice ca n.cs.length cap, Value.int IntKind.u8 n.ms, Value.int IntKind.i64 n.lf, Value.int IntKind.i64 n.rt] 40)) := (Keep.refl w).alloc _
  have hm : ∀ w : World, (method 232 105 (.agg #[]) "thicket/trees.goes").run Try.prog w = .ok (103, .agg #[]) w := fun _ => by kernel_rfl
  have A : ∀ wx : World, Calls Try.prog 54 #[.int .u8 (n.kd : Nat)] wx (fun e w' => e = .returned (.iface 105 (.agg #[])) ∧ w' = wx) := fun wx => by rw [h2]; exact askerOf_number wx
  clear h2
  have L := fun wx (k : Keep w wx) => number_goes n ca cap x wx
  unfold Nd.v at L ⊢
  go_enter Try.func22, Try.ntmps22
  go_wp2_with fail
  go_region_with (first
    | (go_at_call 54; refine (A _).mono ?_; rintro e wA ⟨rfl, rfl⟩)
    | (go_at_call 103; refine (L _ (k0.drew)).mono ?_; rintro e wB ⟨rfl, kB⟩))
  all_goals
    go_simp
    go_wp2_with fail
    go_ret
    exact ⟨rfl, k0.drew.trans kB⟩
set_option maxRecDepth 100000 in
theorem Goes_among (n : Nd) (ca : Option Addr) (cap x : Nat) (w : World) (h3 : n.kd = 3) (hr : RdI w ca n.cs) (hl : n.cs.length ≤ 17592186044416) (hc : n.cs.length ≤ cap) :
    Calls Try.prog 22 #[n.v ca cap, .float .f64 x] w fun e w' => e = .returned (.int .u8 (amS n x : Nat)) ∧ Keep w w' := by
  have k0 : Keep w (w.alloc (Obj.cells #[Value.int IntKind.u8 n.kd, Value.int IntKind.i64 n.vl, Value.int IntKind.i64 n.ft, Value.float FloatKind.f64 n.th, Value.slice ca n.cs.length cap, Value.int IntKind.u8 n.ms, Value.int IntKind.i64 n.lf, Value.int IntKind.i64 n.rt] 40)) := (Keep.refl w).alloc _
  have hm : ∀ w : World, (method 232 106 (.agg #[]) "thicket/trees.goes").run Try.prog w = .ok (105, .agg #[]) w := fun _ => by kernel_rfl
  have A : ∀ wx : World, Calls Try.prog 54 #[.int .u8 (n.kd : Nat)] wx (fun e w' => e = .returned (.iface 106 (.agg #[])) ∧ w' = wx) := fun wx => by rw [h3]; exact askerOf_among wx
  clear h3
  have L := fun wx (k : Keep w wx) => among_goes n ca cap x wx (hr.keep k) hl hc
  unfold Nd.v at L ⊢
  go_enter Try.func22, Try.ntmps22
  go_wp2_with fail
  go_region_with (first
    | (go_at_call 54; refine (A _).mono ?_; rintro e wA ⟨rfl, rfl⟩)
    | (go_at_call 105; refine (L _ (k0.drew)).mono ?_; rintro e wB ⟨rfl, kB⟩))
  all_goals
    go_simp
    go_wp2_with fail
    go_ret
    exact ⟨rfl, k0.drew.trans kB⟩
theorem Goes_any (n : Nd) (ca : Option Addr) (cap x : Nat) (w : World) (hr : RdI w ca n.cs) (hl : n.cs.length ≤ 17592186044416) (hc : n.cs.length ≤ cap) :
    Calls Try.prog 22 #[n.v ca cap, .float .f64 x] w fun e w' => e = .returned (.int .u8 (gsS n x : Nat)) ∧ Keep w w' := by
  by_cases h2 : n.kd = 2
  · have h := Goes_number n ca cap x w h2
    rw [show gsS n x = sdS x n.ms (leB x n.th) by unfold gsS; rw [if_pos h2]]; exact h
  · by_cases h3 : n.kd = 3
    · have h := Goes_among n ca cap x w h3 hr hl hc
      rw [show gsS n x = amS n x by unfold gsS; rw [if_neg h2, if_pos h3]]; exact h
    · have h := Goes_leaf n ca cap x w h2 h3
      rw [show gsS n x = 0 by unfold gsS; rw [if_neg h2, if_neg h3]]; exact h
end Go.Proofs.Ytbchinfmdioijaa

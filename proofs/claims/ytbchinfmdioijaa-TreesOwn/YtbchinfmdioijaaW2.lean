import Derived.Test.YtbchinfmdioijaaW1
set_option linter.unusedVariables false
set_option linter.unusedSimpArgs false
namespace Go.Proofs.Ytbchinfmdioijaa
open Go.RowKit Go.Shelf
/-- Numbers that can be read, by their bits. -/
def RdF (w : World) (a : Option Addr) (l : List Nat) : Prop :=
  ∀ j, j < l.length → ∃ b o, a = some ⟨b, o, none⟩ ∧ w.cell? ⟨b, o + j, none⟩ = some (.float .f64 (l.getD j 0))
theorem RdF.keep {w w' : World} {a : Option Addr} {l : List Nat} (h : RdF w a l) (k : Keep w w') : RdF w' a l := by
  intro j hj
  obtain ⟨b, o, e, hc⟩ := h j hj
  exact ⟨b, o, e, k.cell hc⟩
/-- Where a vector goes on. -/
def nxt (n : Nd) (xs : List Nat) : Int := if gsS n (xs.getD n.ft.toNat 0) = 1 then n.lf else n.rt
set_option maxRecDepth 100000 in
set_option maxHeartbeats 1000000 in
theorem next_any (n : Nd) (ca ax : Option Addr) (cap cx : Nat) (xs : List Nat) (w : World) (hr : RdI w ca n.cs) (hl : n.cs.length ≤ 17592186044416) (hc : n.cs.length ≤ cap) (hx : RdF w ax xs) (hxl : xs.length ≤ 17592186044416) (f0 : 0 ≤ n.ft) (f1 : n.ft < (xs.length : Int)) :
    Calls Try.prog 81 #[n.v ca cap, .slice ax xs.length cx] w fun e w' => e = .returned (.int .i64 (nxt n xs)) ∧ Keep w w' := by
  obtain ⟨ft, hft⟩ := Int.eq_ofNat_of_zero_le f0
  have hftl : ft < xs.length := by omega
  obtain ⟨b, o, rfl, hcell⟩ := hx ft hftl
  have HX : Hid (nxt n xs = if gsS n (xs.getD ft 0) = 1 then n.lf else n.rt) := by show _ = _; unfold nxt; rw [hft]; rfl
  generalize xs.getD ft 0 = xv at hcell HX
  have G := fun (wx : World) (k : Keep w wx) => Goes_any n ca cap xv wx (hr.keep k) hl hc
  have k0 : Keep w (w.alloc (Obj.cells #[Value.int IntKind.u8 n.kd, Value.int IntKind.i64 n.vl, Value.int IntKind.i64 n.ft, Value.float FloatKind.f64 n.th, Value.slice ca n.cs.length cap, Value.int IntKind.u8 n.ms, Value.int IntKind.i64 n.lf, Value.int IntKind.i64 n.rt] 40)) := (Keep.refl w).alloc _
  have hcell1 := k0.cell hcell
  have hcell2 := k0.drew.cell hcell
  obtain ⟨s, hs⟩ : ∃ s, gsS n xv = s := ⟨_, rfl⟩
  rw [hs] at HX G
  clear hs
  unfold Nd.v at G ⊢
  rw [hft] at G k0 hcell1 hcell2 ⊢
  clear hft f0 f1
  obtain ⟨w1, hw1⟩ : ∃ w1, w.alloc (Obj.cells #[Value.int IntKind.u8 n.kd, Value.int IntKind.i64 n.vl, Value.int IntKind.i64 (ft : Nat), Value.float FloatKind.f64 n.th, Value.slice ca n.cs.length cap, Value.int IntKind.u8 n.ms, Value.int IntKind.i64 n.lf, Value.int IntKind.i64 n.rt] 40) = w1 := ⟨_, rfl⟩
  have b6 : w1.drew.cell? ⟨w.heap.size, 6, none⟩ = some (.int .i64 n.lf) := by
    rw [← hw1]
    show (w.alloc _).cell? _ = _
    rw [cell_of_row _ _ 6 _ 40 (0, 0) (heap_alloc_new w _)]; rfl
  have b7 : w1.drew.cell? ⟨w.heap.size, 7, none⟩ = some (.int .i64 n.rt) := by
    rw [← hw1]
    show (w.alloc _).cell? _ = _
    rw [cell_of_row _ _ 7 _ 40 (0, 0) (heap_alloc_new w _)]; rfl
  have kw : Keep w w1.drew := by rw [← hw1]; exact k0.drew
  replace hw1 : Hid _ := hw1
  by_cases h1 : s = 1
  · subst h1
    have HR : Hid (nxt n xs = n.lf) := by show _ = _; rw [HX.out]; rfl
    clear HX
    go_enter Try.func81, Try.ntmps81
    go_wp2_with fail
    go_region_with (go_at_call 22; refine (G _ k0.drew).mono ?_; rintro e wB ⟨rfl, kB⟩)
    all_goals
      go_simp
      rw [hw1.out] at kB
      have d6 := kB.cell b6
      go_wp2_with fail
      go_ret
      exact ⟨ret_int HR.out.symm, kw.trans kB⟩
  · have e1 : ((s : Int) == 1) = false := by rw [beq_eq_false_iff_ne]; omega
    have HR : Hid (nxt n xs = n.rt) := by show _ = _; rw [HX.out, if_neg h1]
    clear HX h1
    go_enter Try.func81, Try.ntmps81
    go_wp2_with fail
    go_region_with (go_at_call 22; refine (G _ k0.drew).mono ?_; rintro e wB ⟨rfl, kB⟩)
    all_goals
      go_simp
      rw [hw1.out] at kB
      have d7 := kB.cell b7
      go_wp2_with fail
      go_ret
      exact ⟨ret_int HR.out.symm, kw.trans kB⟩
end Go.Proofs.Ytbchinfmdioijaa
